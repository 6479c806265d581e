/- Texts of ours, one behind the other: M3 B1 B2 B3 W2 C1 C2 D1 R1 R2 R3 W3. -/
import Derived.Test.YtedifobeggabnaaGreatCbM2
namespace Go.Proofs.YtedifobeggabnaaGreat
set_option maxHeartbeats 4000000
set_option maxRecDepth 100000
open Tryz
variable {b:FD}{g:Nat->Value}{c i:World}{d j:Nat}{f:Value}{e:List Int}{o:Array Oper}{p:List Oper}{l:Oper}{m:Act}{q:Exit->Act->World->Prop}
abbrev XS:=@Go.Calls.quiet_of
abbrev X5:=@Go.info_parts
abbrev Ya:=@Go.World.cell?_of_block
abbrev Yq:=@Go.wpList_append_own
abbrev Yw:=@Go.World.ownsRow.alloc
abbrev YI:=@Go.World.ownsRow.lt
abbrev YO:=@Go.toList_madeCells_one
abbrev YR:=@Go.Calls.quiet_of_same
theorem Xu{a:Prop}(b:a:=by unfold maxLen;omega):a:=b
theorem jA(a:Nat->Nat):∀k b,again a k (a b)=again a (k+1) b
 |0,_=>rfl
 |k+1,b=>by
  show a (again a k (a b))=a (again a (k+1) b);rw[jA a k b]
theorem sX(a:Nat->Nat)(j b:Nat):∀k,again a (k+j) b=again a k (again a j b)
 |0=>by rw[aW];rfl
 |k+1=>by
  rw[show k+1+j=(k+j)+1 from E];show a (again a (k+j) b)=a (again a k (again a j b));rw[sX a j b k]
theorem ig(d:Nat->Nat)(e:Nat):∀n a,(oD d n a).contains e=true↔∃b,b<n∧again d b a=e
 |0,a=>by simp[oD]
 |n+1,a=>by
  rw[oD,List.contains_cons,iB,ig d e n (d a),br];constructor
  ·rintro(c|⟨b,d,c⟩)
   ·exact⟨0,E,c.symm⟩
   ·exact⟨b+1,E,by rw[<-jA];exact c⟩
  ·rintro⟨b,d,c⟩;cases b with
   |zero=>exact I c.symm
   |succ b=>exact J ⟨b,E,by rw[jA];exact c⟩
theorem xj(c:Nat->Nat):∀n a,xi (oD c n a)=true↔∀b,b<n->∀j,j<b->again c j a≠again c b a
 |0,a=>by simp[oD,xi]
 |n+1,a=>by
  rw[oD,xi,aI,xj c n (c a),m7, <-gJ,ig];constructor
  ·rintro⟨f,g⟩ b e j h;cases b with
   |zero=>omega
   |succ b=>
    cases j with
    |zero=>exact λd=>f ⟨b,E,by rw[jA];exact d.symm⟩
    |succ j=>have:=g b E j E;rw[jA,jA]at this;exact this
  ·intro c;refine⟨?_,λb e j h=>by rw[jA,jA];exact c (b+1) E (j+1) E⟩;rintro⟨b,e,d⟩;rw[jA]at d;exact c (b+1) E 0 E d.symm
theorem jS(a:Nat->Nat)(b:Nat):oN a b=true↔Full a b:=by
 unfold oN Full;rw[aI,xj,m7, <-gJ,ig];constructor
 ·rintro⟨d,e⟩ a b;exact⟨λc=>d ⟨a,b,c⟩,e a b⟩
 ·intro d;exact⟨λ⟨a,b,c⟩=>(d a b).1 c,λa b=>(d a b).2⟩
structure bV(D:FD):Prop where
 p2:2<=D.p
 Nw:D.p<=64
 m1:1<=D.m
 m6:D.m<=6
 q2:2<=D.q
 uP:D.q<=64
 qp:D.q=D.p ^ D.m
 xP:∀a b,a<D.q->b<D.q->dz D.p D.q a b<D.q
 WR:∀a b i,a<D.q->b<D.q->i<D.m->dz D.p D.q a b / D.p ^ i % D.p=(a / D.p ^ i+b / D.p ^ i) % D.p
 FF:∀a,a<D.q->jC D.p D.q a<D.q
 sum_neg:∀a,a<D.q->dz D.p D.q a (jC D.p D.q a)=0
 lj:∀a,a<D.q->dz D.p D.q a 0=a
 full:Full D.st (D.q-1)
 xy:∀k,k<D.q-1->again D.st k 1<D.q
 period:again D.st (D.q-1) 1=1
 V5:∀a,a<D.q->a≠0->∃k,k<D.q-1∧again D.st k 1=a
 Rd:D.st 0=0
 Sc:∀a,a<D.q->D.st a<D.q
 TW:∀a b,a<D.q->b<D.q->D.st (dz D.p D.q a b)=dz D.p D.q (D.st a) (D.st b)
 tD:D.m=1->D.p=D.q∧1<=D.gen∧D.gen<D.q∧D.low=0∧∀g,1<=g->g<D.gen->¬Full (λa=>a*g % D.q) (D.q-1)
 Fq:D.m≠1->D.gen=D.p∧D.low<D.q∧∀l,l<D.low->¬Full (fQ D.p D.q l) (D.q-1)
theorem dE(a:b∈ak):bV b:=by
 have h:=aM.1 EP b a;have g:=aM.1 EM b a;have c:=aM.1 EO b a;have e:=aM.1 EJ b a;have d:=aM.1 Ao b a;have f:=aM.1 EN b a;clear a;unfold Ll at f;simp only[aI,bu,br]at f;obtain⟨⟨⟨⟨⟨⟨a,j⟩,k⟩,l⟩,m⟩,n⟩,o⟩:=f;unfold Lm at c;simp only[aI,aM,bu,br]at c;obtain⟨⟨⟨f,p⟩,q⟩,r⟩:=c;unfold Li at e;simp only[aI,br]at e;obtain⟨c,i⟩:=e;unfold Cb at d;refine⟨a,j,k,l,m,n,o,?_,?_,?_,?_,?_,(jS _ _).1 f,?_,q,?_,c,?_,?_,?_,?_⟩
 ·intro a e c f;have:=dJ (dJ h a c) e f;simp only[aI,bu]at this;exact this.1
 ·intro a e j c f k;have:=dJ (dJ h a c) e f;simp only[aI,bu]at this;exact br.1 (dJ this.2 j k)
 ·intro a c;have:=dJ g a c;simp only[aI,bu,br]at this;exact this.1.1
 ·intro a c;have:=dJ g a c;simp only[aI,bu,br]at this;exact this.1.2
 ·intro a c;have:=dJ g a c;simp only[aI,bu,br]at this;exact this.2
 ·intro g h;exact p _ (List.contains_iff_mem.1 ((ig _ _ _ _).2 ⟨g,h,X⟩))
 ·intro a c g;have:=dJ r a c;rw[iB,ig,br]at this;exact this.resolve_left g
 ·intro a c;have:=dJ i a c;simp only[aI,bu]at this;exact this.1
 ·intro a e c f;have:=dJ i a c;simp only[aI,bu]at this;exact br.1 (dJ this.2 e f)
 ·intro a;rw[ai a]at d;simp only[aI,bu,br]at d;obtain⟨⟨⟨⟨c,e⟩,f⟩,h⟩,i⟩:=d;refine⟨c,e,f,h,λj l k g=>?_⟩;have:=dJ i j k;rw[(jS _ _).2 g]at this;simp at this;omega
 ·intro a;rw[af a]at d;simp only[aI,bu,br]at d;obtain⟨⟨c,e⟩,f⟩:=d;refine⟨c,e,λa d g=>?_⟩;have:=dJ f a d;rw[(jS _ _).2 g]at this;simp at this
theorem AG(c:b∈ak):RP b.p b.q:=by
 have a:=aM.1 ER b c;intro c;unfold Ln at a;rw[c]at a ⊢;simp only[OW,Eu,Bool.false_or]at a;refine⟨λc e d f=>?_,λc d=>?_⟩
 ·have:=dJ a c d;rw[aI]at this;exact br.1 (dJ this.2 e f)
 ·have:=dJ a c d;rw[aI]at this;exact br.1 this.1
theorem sH(b d c e:Nat):∀k a,fM b d c e k a=fM b d e c k a
 |0,_=>rfl
 |k+1,a=>by
  rw[fM,fM,sH b d c e k (a*b),ln (c / a)]
def mF(b c d e f:Nat):Nat->Nat->Nat
 |0,_=>0
 |k+1,a=>if a<c then(d / a+e / a+f / a) % b*a+mF b c d e f k (a*b)else 0
theorem bV.TX(f:bV b)(d e g:Nat)(h:d<b.q)(i:e<b.q):∀k a,fM b.p b.q (dz b.p b.q d e) g k (b.p ^ a)=mF b.p b.q d e g k (b.p ^ a)
 |0,_=>rfl
 |k+1,a=>by
  rw[fM,mF];by_cases c:b.p ^ a<b.q
  ·have j:a<b.m:=by
    rw[f.qp]at c;exact(Nat.pow_lt_pow_iff_right f.p2).1 c
   rw[ai c,ai c, <-iK,f.TX d e g h i k (a+1)]
   congr 2
   rw[Nat.add_mod,f.WR d e a h i j,Nat.mod_add_mod,RO]
  ·rw[af c,af c]
theorem zZ(e f b c d:Nat):∀k a,mF e f b c d k a=mF e f c d b k a
 |0,_=>rfl
 |k+1,a=>by
  rw[mF,mF,zZ e f b c d k (a*e),show b / a+c / a+d / a=c / a+d / a+b / a from E]
theorem bV.add_comm{a:FD}(_F:bV a)(b c:Nat):dz a.p a.q b c=dz a.p a.q c b:=sH _ _ _ _ _ _
theorem bV.add_assoc{a:FD}(e:bV a)(b c d:Nat)(i:b<a.q)(f:c<a.q)(j:d<a.q):dz a.p a.q (dz a.p a.q b c) d=dz a.p a.q b (dz a.p a.q c d):=by
 rw[e.add_comm b (dz a.p a.q c d)];have g:=e.TX b c d i f 7 0;have h:=e.TX c d b f j 7 0;rw[Nat.pow_zero]at g h;unfold dz at *;rw[g,h,zZ]
theorem bV.M9(d:bV b)(e a c:Nat)(i:e<b.q)(f:a<b.q)(g:c<b.q)(j:dz b.p b.q e a=0)(k:dz b.p b.q e c=0):a=c:=by
 have h:=d.add_assoc a e c f i g;rw[k,d.lj a f,d.add_comm a e,j,d.add_comm 0 c,d.lj c g]at h;exact h.symm
def FD.lg(a:FD)(b:Nat):Nat:=(oD a.st (a.q-1) 1).findIdx (·==b)
theorem Dp(a:Nat->Nat):∀n b,(oD a n b).length=n
 |0,_=>rfl
 |n+1,b=>by rw[oD,jw,Dp a n]
theorem Dm(c:Nat->Nat):∀n a b,b<n->(oD c n a)[b]?=some (again c b a)
 |0,_,_,d=>E
 |n+1,a,0,_=>by rw[oD];rfl
 |n+1,a,b+1,d=>by
  rw[oD,List.getElem?_cons_succ,Dm c n (c a) b E,jA]
theorem bV.ur(c:bV b)(a:Nat)(d:a<b.q)(e:a≠0):b.lg a<b.q-1∧again b.st (b.lg a) 1=a:=by
 obtain⟨f,g,h⟩:=c.V5 a d e
 have c:b.lg a<(oD b.st (b.q-1) 1).length:=by
  unfold FD.lg;rw[List.findIdx_lt_length];exact⟨a,List.contains_iff_mem.1 ((ig _ _ _ _).2 ⟨f,g,h⟩),oi⟩
 have d:=Dp b.st (b.q-1) 1;have d:b.lg a<b.q-1:=E;refine⟨d,?_⟩;have e:=Dm b.st (b.q-1) 1 (b.lg a) d;have d:((oD b.st (b.q-1) 1)[b.lg a]==a)=true:=List.findIdx_getElem (w:=c);rw[aE c,bt]at e;rw[<-e];exact br.1 d
theorem bV.inj{b:FD}(c:bV b)(j a:Nat)(e:j<b.q-1)(f:a<b.q-1)(d:again b.st j 1=again b.st a 1):j=a:=by
 rcases cJ j a with b|b|b
 ·exact absurd d ((c.full a f).2 j b)
 ·exact b
 ·exact absurd d.symm ((c.full j e).2 a b)
theorem bV.Mc(c:bV b)(a:Nat)(d:a<b.q-1):b.lg (again b.st a 1)=a:=by
 have:=c.ur (again b.st a 1) (c.xy a d) (c.full a d).1;exact c.inj _ _ this.1 d this.2
theorem bV.J2(c:bV b)(a:Nat):again b.st (a+(b.q-1)) 1=again b.st a 1:=by
 rw[sX,c.period]
theorem bV.pow_mod(e:bV b)(d:Nat):again b.st (d % (b.q-1)) 1=again b.st d 1:=by
 have f:∀a c,again b.st (c+a*(b.q-1)) 1=again b.st c 1:=by
  intro a;induction a with
  |zero=>intro c;rw[Nat.zero_mul];rfl
  |succ a g=>intro c;rw[Nat.succ_mul, <-fh,e.J2,g]
 conv=>rhs;rw[<-Nat.mod_add_div d (b.q-1),yi (b.q-1)]
 rw[f]
def FD.mul(a:FD)(b c:Nat):Nat:=if b=0∨c=0 then 0 else again a.st ((a.lg b+a.lg c) % (a.q-1)) 1
def FD.pw(a:FD)(b c:Nat):Nat:=again a.st (a.lg b*c % (a.q-1)) 1
theorem vN{a:Nat->Nat}(b:a 0=0):∀k,again a k 0=0
 |0=>rfl
 |k+1=>by show a (again a k 0)=0;rw[vN b k,b]
theorem bV.mul_eq(c:bV b)(d a:Nat)(f:d≠0)(e:a<b.q):b.mul d a=again b.st (b.lg d) a:=by
 unfold FD.mul;by_cases d:a=0
 ·rw[ai (J d),d,vN c.Rd]
 ·rw[af E,c.pow_mod,sX,(c.ur a e d).2]
theorem bV.bX(a:bV b)(c d:Nat):b.mul c d<b.q:=by
 unfold FD.mul;split
 ·have:=a.q2;omega
 ·exact a.xy _ (bZ _ (by have:=a.q2;omega))
theorem bV.tG(d:bV b)(a c:Nat)(e:a≠0)(f:c≠0):b.mul a c≠0∧b.lg (b.mul a c)=(b.lg a+b.lg c) % (b.q-1):=by
 have e:(b.lg a+b.lg c) % (b.q-1)<b.q-1:=bZ _ (by have:=d.q2;omega);unfold FD.mul;rw[af E];exact⟨(d.full _ e).1,d.Mc _ e⟩
theorem bV.mul_comm{a:FD}(_F:bV a)(b c:Nat):a.mul b c=a.mul c b:=by
 unfold FD.mul;by_cases a:b=0∨c=0
 ·rw[ai a,ai a.symm]
 ·rw[af a,af (λb=>a b.symm),ln]
theorem bV.mul_assoc(f:bV b)(c a d:Nat):b.mul (b.mul c a) d=b.mul c (b.mul a d):=by
 by_cases g:c=0
 ·subst g;simp[FD.mul]
 by_cases e:a=0
 ·subst e;simp[FD.mul]
 by_cases h:d=0
 ·subst h;simp[FD.mul]
 have i:=f.tG c a g e;have c:=f.tG a d e h;rw[FD.mul,af E,i.2,FD.mul,af E,c.2,Nat.mod_add_mod,RO,fh]
theorem bV.vM(d:bV b)(a c:Nat)(e:a<b.q)(f:c<b.q):∀k,again b.st k (dz b.p b.q a c)=dz b.p b.q (again b.st k a) (again b.st k c)
 |0=>rfl
 |k+1=>by
  show b.st (again b.st k _)=dz _ _ (b.st (again b.st k a)) (b.st (again b.st k c));rw[d.vM a c e f k,d.TW _ _ (rL _ _ d.Sc k a e) (rL _ _ d.Sc k c f)]
theorem bV.Py(a:bV b)(c d e:Nat)(g:d<b.q)(h:e<b.q):b.mul c (dz b.p b.q d e)=dz b.p b.q (b.mul c d) (b.mul c e):=by
 by_cases f:c=0
 ·subst f;have:dz b.p b.q 0 0=0:=a.lj 0 (by have:=a.q2;omega);simp[FD.mul,this]
 ·rw[a.mul_eq c _ f (a.xP d e g h),a.mul_eq c d f g,a.mul_eq c e f h,a.vM d e g h]
theorem bV.mul_one{b:FD}(c:bV b)(a:Nat)(e:a<b.q):b.mul a 1=a:=by
 by_cases d:a=0
 ·subst d;simp[FD.mul]
 ·rw[c.mul_eq a 1 d (by have:=c.q2;omega)];exact(c.ur a e d).2
section
open Go.RowKit
theorem tN:ak.all (λa=>pp a.q==(a.p,a.m))=true:=x6
theorem VZ(c:b∈ak):Good b.q b.p b.m:=by
 have a:=dE c;exact⟨br.1 (aM.1 tN b c),a.p2,a.Nw,a.m1,a.q2,a.uP,⟨a.xP,a.M9⟩,a.FF,a.sum_neg,AG c⟩
structure gO(F T:Nat)(D:FD)(g:Nat->Value)(w:World):Prop where
 ptr:w.cell? ⟨F,0,none⟩=some (.pointer (some ⟨T,0,none⟩))
 row:bD T 133 119 g w
 Im:Pj D.q D.p D.m D.low D.gen D.st g
 qY:F<w.heap.size
theorem gO.drewN{d T:Nat}(a:gO d T b g c)(e:Nat):gO d T b g (c.drewN e):=⟨a.ptr,a.row.drewN e,a.Im,a.qY⟩
theorem gO.below{a T B:Nat}(d:gO a T b g c)(e:Below B c i)(f:a<B)(h:T<B):gO a T b g i:=
 ⟨(e.cell (p:=⟨a,0,none⟩) f).trans d.ptr,d.row.below e h,d.Im,aj d.qY e.size⟩
theorem IG(d:b∈ak)(a:World):Calls prog 64 #[.int .i64 b.q] a λf c=>f=.returned (.pointer (some ⟨a.heap.size,0,none⟩))∧∃e,bD a.heap.size 133 119 e c∧Pj b.q b.p b.m b.low b.gen b.st e∧Below a.heap.size a c:=by
 have c:=dE d;have h:=VZ d;by_cases d:b.m=1
 ·obtain⟨g,i,j,l,m⟩:=c.tD d;have e:b.st=λk=>k*b.gen % b.q:=by funext k;rw[FD.st,ai d]
  have f:=c.full;rw[e,l,d,g];rw[e]at f;rw[d,g]at h;exact B9 b.q b.gen a h i j f m
 ·obtain⟨g,i,j⟩:=c.Fq d;have e:b.st=fQ b.p b.q b.low:=by funext k;rw[FD.st,af d]
  have f:=c.full;rw[e,g];rw[e]at f;exact B7 b.q b.p b.m b.low a h (by have:=c.m1;omega) c.m6 i f j
theorem kh(f:b∈ak)(a:World):Calls prog 44 #[.int .i64 b.q] a λg c=>∃i T d,g=.returned (.tuple #[.pointer (some ⟨i,0,none⟩),.int .i64 0])∧gO i T b d c∧a.heap.size<=i∧a.heap.size<=T∧Below a.heap.size a c:=by
 have i:=(dE f).q2;have i:=(dE f).uP;have j:Hid (Calls prog 64 #[.int .i64 b.q] a λg c=>g=.returned (.pointer (some ⟨a.heap.size,0,none⟩))∧∃d,bD a.heap.size 133 119 d c∧Pj b.q b.p b.m b.low b.gen b.st d∧Below a.heap.size a c):=IG f a;clear f;go_enter func44,ntmps44;go_wp2_with fail;refine j.out.mono ?_;rintro g c ⟨rfl,d,k,l,m⟩;have e:Hid (bD a.heap.size 133 119 d c∧Pj b.q b.p b.m b.low b.gen b.st d∧Below a.heap.size a c):=⟨k,l,m⟩;clear k l m j;go_wp2
 go_ret2
 refine⟨c.heap.size,a.heap.size,d,X,⟨Yb (dR _),e.out.1.alloc _,e.out.2.1,oi⟩,e.out.2.2.size,aa _,e.out.2.2.alloc e.out.2.2.size _⟩
theorem xG{a T:Nat}(h:gO a T b g c):Calls prog 105 #[.pointer (some ⟨a,0,none⟩)] c λd e=>d=.returned (.int .i64 b.q)∧e=c:=by
 have a:=h.ptr;have a:c.cell? ⟨T,0,none⟩=some (.int .i64 b.q):=by rw[h.row.cell 0 E,h.Im.sum.c0]
 clear h;go_enter func105,ntmps105;go_wp2;go_ret;exact⟨X,X⟩
theorem ic{a b:Bool}(c:a=b):Ending.returned (.bool a)=.returned (.bool b):=by rw[c]
def FD.has(b:FD)(a:Int):Bool:=decide (0<=a∧a<b.q)
theorem eG{e T:Nat}(h:gO e T b g c)(a:Int):Calls prog 45 #[.pointer (some ⟨e,0,none⟩),.int .i64 a] c λi j=>i=.returned (.bool (b.has a))∧j=c:=by
 have e:=h.ptr;have e:c.cell? ⟨T,0,none⟩=some (.int .i64 b.q):=by rw[h.row.cell 0 E,h.Im.sum.c0]
 clear h;by_cases f:0<=a
 ·have d:Hid (b.has a=decide (a<b.q)):=by show b.has a=_;simp[FD.has,f]
  go_enter func45,ntmps45;go_wp2;go_ret;exact⟨ic (by rw[d.out]),X⟩
 ·have d:Hid (b.has a=false):=by show b.has a=_;simp[FD.has,f]
  go_enter func45,ntmps45;go_wp2;go_ret;exact⟨ic (by rw[d.out]),X⟩
def FD.nB(a:FD)(b c:Int):Int:=if a.has b=true∧a.has c=true then(dz a.p a.q b.toNat c.toNat:Nat)else -1
def FD.pB(a:FD)(b:Int):Int:=if a.has b=true then(jC a.p a.q b.toNat:Nat)else -1
def FD.jI(a:FD)(b c:Int):Int:=if a.has b=true∧a.has c=true then(a.mul b.toNat c.toNat:Nat)else -1
def FD.kv(a:FD)(b c:Int):Int:=if a.has b=false then -1 else if c=0 then 1 else if b=0 then(if c<0 then -1 else 0)else(a.pw b.toNat (c % ((a.q-1:Nat):Int)).toNat:Nat)
theorem fT{a:Int}(d:b.has a=true):∃c:Nat,a=c∧c<b.q:=by
 simp only[FD.has,bu]at d;exact⟨a.toNat,E,E⟩
theorem jh(a:d<b.q):b.has (d:Int)=true:=by
 simp only[FD.has,bu];omega
theorem GB{p T:Nat}(l:b∈ak)(h:gO p T b g c)(a d:Int):Calls prog 66 #[.pointer (some ⟨p,0,none⟩),.int .i64 a,.int .i64 d] c λe f=>e=.returned (.int .i64 (b.nB a d))∧∃m,f=c.drewN m:=by
 have w:=h.ptr;have s:=(dE l).uP;have i:Hid (gO p T b g c):=h;have q:Hid (bV b∧RP b.p b.q):=⟨dE l,AG l⟩;clear h l;by_cases n:b.has a=true
 ·by_cases o:b.has d=true
  ·obtain⟨j,rfl,t⟩:=fT n;obtain⟨y,rfl,u⟩:=fT o;have k:Hid (b.nB j y=(dz b.p b.q j y:Nat)):=by show b.nB j y=_;rw[FD.nB,ai ⟨n,o⟩];rfl
   have v:Hid (Calls prog 94 #[.pointer (some ⟨T,0,none⟩),.int .i64 j,.int .i64 y] c λe f=>e=.returned (.int .i64 (dz b.p b.q j y:Nat))∧∃m,f=c.drewN m):=
    Ij T b.p b.q j y c q.out.1.p2 q.out.1.Nw s t u q.out.2 (by rw[i.out.row.cell 0 E,i.out.Im.sum.c0]) (by rw[i.out.row.cell 1 E,i.out.Im.sum.c1])
   go_enter func66,ntmps66;go_wp2_with (first|(go_at_call 45;refine(eG i.out _).mono ?_;rintro e f ⟨rfl,r⟩;have r:=r.symm;subst r)|(go_at_call 94;refine v.out.mono ?_;rintro e f ⟨rfl,m,rfl⟩));go_ret;exact⟨aY (by rw[k.out]),_,X⟩
  ·have j:b.has d=false:=by simpa using o
   have k:Hid (b.nB a d= -1):=by show b.nB a d=_;rw[FD.nB,af (by simp[j])]
   clear o;go_enter func66,ntmps66;go_wp2_with (go_at_call 45;refine(eG i.out _).mono ?_;rintro e f ⟨rfl,rfl⟩);go_ret;exact⟨aY (by rw[k.out]),0,X⟩
 ·have j:b.has a=false:=by simpa using n
  have k:Hid (b.nB a d= -1):=by show b.nB a d=_;rw[FD.nB,af (by simp[j])]
  clear n;go_enter func66,ntmps66;go_wp2_with (go_at_call 45;refine(eG i.out _).mono ?_;rintro e f ⟨rfl,rfl⟩);go_ret;exact⟨aY (by rw[k.out]),0,X⟩
theorem Hi{m T:Nat}(j:b∈ak)(h:gO m T b g c)(a:Int):Calls prog 119 #[.pointer (some ⟨m,0,none⟩),.int .i64 a] c λd e=>d=.returned (.int .i64 (b.pB a))∧∃k,e=c.drewN k:=by
 have t:=h.ptr;have q:=(dE j).uP;have f:Hid (gO m T b g c):=h;have n:Hid (bV b∧RP b.p b.q):=⟨dE j,AG j⟩;clear h j;by_cases l:b.has a=true
 ·obtain⟨i,rfl,r⟩:=fT l;have o:Hid (b.pB i=(jC b.p b.q i:Nat)):=by show b.pB i=_;rw[FD.pB,ai l];rfl
  have s:Hid (Calls prog 127 #[.pointer (some ⟨T,0,none⟩),.int .i64 i] c λd e=>d=.returned (.int .i64 (jC b.p b.q i:Nat))∧∃k,e=c.drewN k):=
   sq T b.p b.q i c n.out.1.p2 n.out.1.Nw q r n.out.2 (by rw[f.out.row.cell 0 E,f.out.Im.sum.c0]) (by rw[f.out.row.cell 1 E,f.out.Im.sum.c1])
  go_enter func119,ntmps119;go_wp2_with (first|(go_at_call 45;refine(eG f.out _).mono ?_;rintro d e ⟨rfl,p⟩;have p:=p.symm;subst p)|(go_at_call 127;refine s.out.mono ?_;rintro d e ⟨rfl,k,rfl⟩));go_ret;exact⟨aY (by rw[o.out]),_,X⟩
 ·have i:b.has a=false:=by simpa using l
  have o:Hid (b.pB a= -1):=by show b.pB a=_;rw[FD.pB,af (by simp[i])]
  clear l;go_enter func119,ntmps119;go_wp2_with (go_at_call 45;refine(eG f.out _).mono ?_;rintro d e ⟨rfl,rfl⟩);go_ret;exact⟨aY (by rw[o.out]),0,X⟩
def FD.Re(a:FD)(b c:Int):Int:=a.nB b (a.pB c)
theorem Rf{a T:Nat}(d:b∈ak)(h:gO a T b g c)(e f:Int):Calls prog 126 #[.pointer (some ⟨a,0,none⟩),.int .i64 e,.int .i64 f] c λi j=>i=.returned (.int .i64 (b.Re e f))∧∃m,j=c.drewN m:=by
 have m:=d;have k:Hid (gO a T b g c):=h;have l:Hid (b∈ak):=d;clear h d m;go_enter func126,ntmps126;go_wp2_with fail;refine(Hi l.out k.out f).mono ?_;rintro i j ⟨rfl,n,rfl⟩;go_wp2_with fail;refine(GB l.out (k.out.drewN n) e _).mono ?_;rintro i j ⟨rfl,o,rfl⟩;go_wp2;go_ret;exact⟨X,_,by first|rfl|rw[Ye]⟩
theorem qN(b a:Int)(c:World)(d:1<=a)(e:a<=64)(i: -9223372036854775808<=b)(j:b<=9223372036854775807):Calls prog 116 #[.int .i64 b,.int .i64 a] c λd e=>d=.returned (.int .i64 (b % a))∧e=c:=by
 have c:=Int.tmod_lt_of_pos b (show(0:Int)<a from E);have d:=Int.lt_tmod_of_pos b (show(0:Int)<a from E)
 have f:Hid (b.tmod a % a=b % a):=by
  show b.tmod a % a=b % a;rw[Int.tmod_def];exact Int.sub_mul_emod_self_left _ _ _
 by_cases e:0<=b
 ·have g:Hid ((b % a+a) % a=b % a):=by show _=_;rw[Int.add_emod_right,Int.emod_emod]
  have e:=yt b (show a≠0 from E);have e:=rz b (show 0<a from E);clear c d;go_enter func116,ntmps116;go_wp2;go_ret;exact⟨aY (by rw[g.out]),X⟩
 ·go_enter func116,ntmps116;go_wp2;go_ret;exact⟨aY (by rw[f.out]),X⟩
theorem zG{d T:Nat}(e:b∈ak)(h:gO d T b g c)(a:Int)(l: -9223372036854775808<=a)(m:a<=9223372036854775807):Calls prog 95 #[.pointer (some ⟨T,0,none⟩),.int .i64 a] c λf i=>f=.returned (.int .i64 (again b.st (a % ((b.q-1:Nat):Int)).toNat 1:Nat))∧∃d,i=c.drewN d:=by
 have d:=(dE e).uP;have d:=(dE e).q2;have d:c.cell? ⟨T,0,none⟩=some (.int .i64 b.q):=by rw[h.row.cell 0 E,h.Im.sum.c0]
 obtain⟨j,d⟩:∃j:Nat,a % ((b.q:Int)-1)=j∧j<b.q-1:=by
  have k:=yt a (show(b.q:Int)-1≠0 from E);have k:=rz a (show 0<(b.q:Int)-1 from E);exact⟨(a % ((b.q:Int)-1)).toNat,E,E⟩
 obtain⟨d,k⟩:=d;have p:Hid (a % ((b.q:Int)-1)=j):=d;have p:c.cell? ⟨T,5+j,none⟩=some (.int .i64 (again b.st j 1:Nat)):=by rw[h.row.cell _ E,h.Im.U4.pow j k]
 have p:=(dE e).xy j k
 have n:Hid ((a % ((b.q-1:Nat):Int)).toNat=j):=by
  show _=j;rw[show((b.q-1:Nat):Int)=(b.q:Int)-1 from E,d];rfl
 have o:Hid (∀k,Calls prog 116 #[.int .i64 a,.int .i64 ((b.q:Int)-1)] k λf i=>f=.returned (.int .i64 (j:Int))∧i=k):=by
  intro k;rw[<-d];exact qN _ _ _ E E l m
 clear h e d;go_enter func95,ntmps95;go_wp2
 go_quiet ((go_at_call 116;exact YR (o.out _)))
 go_wp2;go_ret;exact⟨aY (by rw[n.out]),_,X⟩
theorem AP(d:bV b)(e:Pj b.q b.p b.m b.low b.gen b.st g)(a:Nat)(f:a<b.q)(h:a≠0):g (69+a)=.int .i64 (b.lg a:Nat):=by
 have c:=d.ur a f h;have:=e.U4.log (b.lg a) c.1;rw[c.2]at this;exact this
theorem Qv{s T:Nat}(r:b∈ak)(h:gO s T b g c)(i j:Int):Calls prog 67 #[.pointer (some ⟨s,0,none⟩),.int .i64 i,.int .i64 j] c λk l=>k=.returned (.int .i64 (b.jI i j))∧∃n,l=c.drewN n:=by
 have z:=h.ptr;have z:=(dE r).uP;have d:Hid (gO s T b g c):=h;have q:Hid (bV b∧b∈ak):=⟨dE r,r⟩;clear h r;by_cases o:b.has i=true
 ·by_cases p:b.has j=true
  ·obtain⟨a,rfl,t⟩:=fT o;obtain⟨y,rfl,u⟩:=fT p;by_cases f:a=0
   ·have v:((a:Int)==0)=true:=by rw[f];rfl
    have e:Hid (b.jI a y=0):=by show b.jI a y=_;rw[FD.jI,ai ⟨o,p⟩];simp[FD.mul,f]
    clear f;go_enter func67,ntmps67;go_wp2_with (go_at_call 45;refine(eG d.out _).mono ?_;rintro k l ⟨rfl,rfl⟩);go_ret;exact⟨aY (by rw[e.out]),0,X⟩
   by_cases m:y=0
   ·have v:((a:Int)==0)=false:=by rw[aA];exact_mod_cast f
    have w:((y:Int)==0)=true:=by rw[m];rfl
    have e:Hid (b.jI a y=0):=by show b.jI a y=_;rw[FD.jI,ai ⟨o,p⟩];simp[FD.mul,m]
    clear f m;go_enter func67,ntmps67;go_wp2_with (go_at_call 45;refine(eG d.out _).mono ?_;rintro k l ⟨rfl,rfl⟩);go_ret;exact⟨aY (by rw[e.out]),0,X⟩
   have v:((a:Int)==0)=false:=by rw[aA];exact_mod_cast f
   have w:((y:Int)==0)=false:=by rw[aA];exact_mod_cast m
   have r:c.cell? ⟨T,69+a,none⟩=some (.int .i64 (b.lg a:Nat)):=by rw[d.out.row.cell _ E,AP q.out.1 d.out.Im a t f]
   have r:c.cell? ⟨T,69+y,none⟩=some (.int .i64 (b.lg y:Nat)):=by rw[d.out.row.cell _ E,AP q.out.1 d.out.Im y u m]
   have r:=(q.out.1.ur a t f).1;have r:=(q.out.1.ur y u m).1
   have e:Hid (b.jI a y=(again b.st ((((b.lg a:Nat):Int)+((b.lg y:Nat):Int)) % ((b.q-1:Nat):Int)).toNat 1:Nat)):=by
    show b.jI a y=_;rw[FD.jI,ai ⟨o,p⟩,FD.mul,af E];rfl
   have x:Hid (∀n,Calls prog 95 #[.pointer (some ⟨T,0,none⟩),.int .i64 (((b.lg a:Nat):Int)+((b.lg y:Nat):Int))] (c.drewN n) λk l=>k=.returned (.int .i64 (b.jI a y))∧∃r,l=(c.drewN n).drewN r):=by
    intro n;rw[e.out];exact zG q.out.2 (d.out.drewN n) _ E E
   clear f m e;go_enter func67,ntmps67;go_wp2_with (go_at_call 45;refine(eG d.out _).mono ?_;rintro k l ⟨rfl,rfl⟩)
   go_quiet ((go_at_call 95;exact XS (x.out _)))
   go_wp2;go_ret;exact⟨X,_,X⟩
  ·have a:b.has j=false:=by simpa using p
   have e:Hid (b.jI i j= -1):=by show b.jI i j=_;rw[FD.jI,af (by simp[a])]
   clear p;go_enter func67,ntmps67;go_wp2_with (go_at_call 45;refine(eG d.out _).mono ?_;rintro k l ⟨rfl,rfl⟩);go_ret;exact⟨aY (by rw[e.out]),0,X⟩
 ·have a:b.has i=false:=by simpa using o
  have e:Hid (b.jI i j= -1):=by show b.jI i j=_;rw[FD.jI,af (by simp[a])]
  clear o;go_enter func67,ntmps67;go_wp2_with (go_at_call 45;refine(eG d.out _).mono ?_;rintro k l ⟨rfl,rfl⟩);go_ret;exact⟨aY (by rw[e.out]),0,X⟩
theorem QK{q T:Nat}(m:b∈ak)(h:gO q T b g c)(d a:Int)(v: -9223372036854775808<=a)(w:a<=9223372036854775807):Calls prog 133 #[.pointer (some ⟨q,0,none⟩),.int .i64 d,.int .i64 a] c λf i=>f=.returned (.int .i64 (b.kv d a))∧∃p,i=c.drewN p:=by
 have z:=h.ptr;have z:=(dE m).uP;have z:=(dE m).q2;have z:c.cell? ⟨T,0,none⟩=some (.int .i64 b.q):=by rw[h.row.cell 0 E,h.Im.sum.c0]
 have n:Hid (gO q T b g c):=h;have r:Hid (bV b∧b∈ak):=⟨dE m,m⟩;clear h m;by_cases o:b.has d=true
 ·by_cases j:a=0
  ·have s:(a==0)=true:=by rw[j];rfl
   have k:Hid (b.kv d a=1):=by show b.kv d a=_;rw[FD.kv,af (by simp[o]),ai j]
   clear j;go_enter func133,ntmps133;go_wp2_with (go_at_call 45;refine(eG n.out _).mono ?_;rintro f i ⟨rfl,rfl⟩);go_ret;exact⟨aY (by rw[k.out]),0,X⟩
  have m:(a==0)=false:=by rw[aA];exact j
  by_cases l:d=0
  ·have s:(d==0)=true:=by rw[l];rfl
   by_cases t:a<0
   ·have k:Hid (b.kv d a= -1):=by show b.kv d a=_;rw[FD.kv,af (by simp[o]),af j,ai l,ai t]
    clear l j;go_enter func133,ntmps133;go_wp2_with (go_at_call 45;refine(eG n.out _).mono ?_;rintro f i ⟨rfl,rfl⟩);go_ret;exact⟨aY (by rw[k.out]),0,X⟩
   ·have k:Hid (b.kv d a=0):=by show b.kv d a=_;rw[FD.kv,af (by simp[o]),af j,ai l,af t]
    clear l j;go_enter func133,ntmps133;go_wp2_with (go_at_call 45;refine(eG n.out _).mono ?_;rintro f i ⟨rfl,rfl⟩);go_ret;exact⟨aY (by rw[k.out]),0,X⟩
  obtain⟨e,rfl,u⟩:=fT o;have q:e≠0:=by intro f;exact l (by rw[f];rfl)
  have s:((e:Int)==0)=false:=by rw[aA];exact l
  have m:c.cell? ⟨T,69+e,none⟩=some (.int .i64 (b.lg e:Nat)):=by rw[n.out.row.cell _ E,AP r.out.1 n.out.Im e u q]
  have m:=(r.out.1.ur e u q).1
  obtain⟨m,s,t⟩:∃m:Nat,a % ((b.q:Int)-1)=m∧m<b.q-1:=by
   have t:=yt a (show(b.q:Int)-1≠0 from E);have u:=rz a (show 0<(b.q:Int)-1 from E);exact⟨(a % ((b.q:Int)-1)).toNat,E,E⟩
  have t:b.lg e*m<=64*64:=cT E E;have t:((b.lg e:Nat):Int)*(m:Int)<=4096:=Xq;have t:0<=((b.lg e:Nat):Int)*(m:Int):=Xq
  have x:Hid (∀t,Calls prog 116 #[.int .i64 a,.int .i64 ((b.q:Int)-1)] t λf i=>f=.returned (.int .i64 (m:Int))∧i=t):=by
   intro t;rw[<-s];exact qN _ _ _ E E v w
  have k:Hid (b.kv e a=(again b.st ((((b.lg e:Nat):Int)*(m:Int)) % ((b.q-1:Nat):Int)).toNat 1:Nat)):=by
   show b.kv e a=_;rw[FD.kv,af (by simp[o]),af j,af l,FD.pw,show((b.q-1:Nat):Int)=(b.q:Int)-1 from E,s, <-bW,show(b.q:Int)-1=((b.q-1:Nat):Int)from E];rfl
  have y:Hid (∀p,Calls prog 95 #[.pointer (some ⟨T,0,none⟩),.int .i64 (((b.lg e:Nat):Int)*(m:Int))] (c.drewN p) λf i=>f=.returned (.int .i64 (b.kv e a))∧∃t,i=(c.drewN p).drewN t):=by
   intro p;rw[k.out];exact zG r.out.2 (n.out.drewN p) _ E E
  clear q l k s j;go_enter func133,ntmps133;go_wp2_with (go_at_call 45;refine(eG n.out _).mono ?_;rintro f i ⟨rfl,rfl⟩)
  go_quiet (first|(go_at_call 116;exact YR (x.out _))|(go_at_call 95;exact XS (y.out _)))
  go_wp2;go_ret;exact⟨X,_,X⟩
 ·have e:b.has d=false:=by simpa using o
  have k:Hid (b.kv d a= -1):=by show b.kv d a=_;rw[FD.kv,ai e]
  clear o;go_enter func133,ntmps133;go_wp2_with (go_at_call 45;refine(eG n.out _).mono ?_;rintro f i ⟨rfl,rfl⟩);go_ret;exact⟨aY (by rw[k.out]),0,X⟩
theorem PX{a T:Nat}(f:b∈ak)(h:gO a T b g c)(d:Int):Calls prog 130 #[.pointer (some ⟨a,0,none⟩),.int .i64 d] c λi j=>i=.returned (.int .i64 (b.kv d (-1)))∧∃e,j=c.drewN e:=by
 have k:Hid (gO a T b g c):=h;have l:Hid (b∈ak):=f;clear h f;go_enter func130,ntmps130;go_wp2_with fail;refine(QK l.out k.out d (-1) E E).mono ?_;rintro i j ⟨rfl,e,rfl⟩;go_wp2;go_ret;exact⟨X,e,X⟩
theorem lV:(prog.info? 3).map (λa=>(a.zero,a.size,a.bytes))=some (some (.int .i64 0),1,8):=wL
def aV(b:Nat)(c:Value)(a:List Int)(d:World):Prop:=d.ownsRow b 3 1 c a.length (a.map (Value.int .i64))
theorem aV.nil(a:Nat)(b:World):aV a (.slice none 0 0) [] b:=World.ownsRow_nil _ _ _ _
theorem aV.alloc(b:aV d f e c)(a:Obj):aV d f e (c.alloc a):=Yw b a
theorem aV.kept{row:Option Nat}(a:aV d f e c)(b:c.grownBy i row)(g:f.ownBlock=none∨f.ownBlock≠row):aV d f e i:=World.ownsRow.kept a b g
theorem aV.drewN(b:aV d f e c)(a:Nat):aV d f e (c.drewN a):=
 b.kept (row:=none) (py (gS _ _) a) (by cases f.ownBlock<;>simp)
theorem aV.below{a B:Nat}(d:aV a f e c)(g:Below B c i)(h:∀b,f.ownBlock=some b->b<B):aV a f e i:=by
 obtain⟨b,a⟩:=d;refine⟨b,?_⟩;rcases a with a|⟨b,j,k,d,l,m,n⟩
 ·exact I a
 ·exact J ⟨b,j,k,d,l,by rw[g.block b (h b (by rw[d];rfl))];exact m,n⟩
theorem aV.lt(b:aV d f e c):∀a,f.ownBlock=some a->d<=a∧a<c.heap.size:=YI b
theorem aV.mono{a base':Nat}(b:aV a f e c)(d:base'<=a):aV base' f e c:=by
 obtain⟨d,a⟩:=b;refine⟨d,?_⟩;rcases a with a|⟨b,d,g,h,j,i⟩
 ·exact I a
 ·exact J ⟨b,d,g,h,E,i⟩
theorem aV.at(g:aV d f e c)(i:e≠[]):∃a b,f=.slice (some ⟨a,0,none⟩) e.length b∧d<=a∧a<c.heap.size∧(∀j,j<e.length->c.cell? ⟨a,j,none⟩=some (.int .i64 (e.getD j 0)))∧(∀j,c.frozen? ⟨a,j,none⟩=false):=by
 have k:=g;rcases k.2 with⟨_,l⟩|⟨a,b,o,h,m,n,p⟩
 ·exact absurd (fY.1 l) i
 ·have i:c.ownsRow d 3 1 (.slice (some ⟨a,0,none⟩) e.length b) e.length (e.map (Value.int .i64)):=h▸g;refine⟨a,b,h,m,X7 n,λj g=>?_,λj=>i.frozenAt j⟩;rw[i.cellAt j E,ck,aE g,aG,aE g];rfl
theorem kC(s:l.guard=none)(b k:Operand)(t:l.op=.call { callee:=.builtin .append,args:= #[b,k],argTypes:= #[22,22]})(e:Nat)(f:Value)(g:List Int)(u:m.eval b=f)(v:aV e f g c)(a:Addr)(n:Nat)(y:Int)(w:m.eval k=.slice (some a) 1 n)(x:c.cell? a=some (.int .i64 y))(B:g.length<=1000000)(z:e<=c.heap.size)(A:∀h d,aV e h (g++[y]) d->c.grownBy d f.ownBlock->wpList prog o q p (m.put l.dst h) d):wpList prog o q (l::p) m c:=by
 obtain⟨B,C,D,E,F⟩:=X5 lV;refine Yq _ s b k 22 t e 3 B (.int .i64 0) 1 8 underlying22 C D E F X x5 f g.length _ u v a 1 n [.int .i64 y] w X ?_ ?_ ?_ ?_ z ?_
 ·intro j G i
  match j,i with
  |0,i=>
   simp at i;subst i;have:a.add 0=a:=by cases a with|mk I l b=>cases b<;>simp[Addr.add]
   rw[this];exact x
 ·intro G r;simp at r;subst r;rfl
 ·unfold maxLen;omega
 ·omega
 ·intro h d a b _;refine A h d ?_ b;unfold aV;rw[dN,aQ];exact a
def gB(b:Nat):List Int:=((List.range b).filter (λa=>decide (2<=a) && decide (0<(pp a).1))).map Int.ofNat
theorem D1(a:Nat)(b:2<=a)(c:0<(pp a).1):gB (a+1)=gB a++[(a:Int)]:=by
 unfold gB;rw[j5,List.filter_append,dN];simp[b,c]
theorem F0(a:Nat)(b:¬0<(pp a).1):gB (a+1)=gB a:=by
 unfold gB;rw[j5,List.filter_append,dN];simp[b]
theorem DZ(a:Nat):(gB a).length<=a:=by
 unfold gB;rw[gp];exact aK (List.length_filter_le _ _) oi
def iW:List Int:=[2,3,4,5,7,8,9,11,13,16,17,19,23,25,27,29,31,32,37,41,43,47,49,53,59,61,64]
theorem DY:gB 65=iW:=x6
theorem zV(b:World):Calls prog 42 #[] b λc e=>∃f,c=.returned f∧aV b.heap.size f iW e∧Below b.heap.size b e:=by
 go_enter func42,ntmps42;go_wp2;go_loopw [1,2] (λf i wr=>∃a:Nat,2<=a∧a<=65∧i=.int .i64 a∧aV b.heap.size f (gB a) wr∧Below b.heap.size b wr) (λ_ i _=>65-(intOf i).toNat)
 case atStart =>exact ⟨2,E,E,rfl,(by have :gB 2=[]:=by decide +kernel
                                     rw[this];exact aV.nil _ _),XK _ _⟩
 case round=>
   obtain⟨a,k,r,rfl,d,g⟩:=hrel;have f:=DZ a;have f:=g.size;by_cases m:a<=64
   ·by_cases n:0<(pp a).1
    ·have l:Hid (gB (a+1)=gB a++[(a:Int)]):=D1 a k n;have o:(0:Int)<((pp a).1:Int):=E
     go_wp2_with (first
       |(go_at_call 31;refine(qg a _ k m).mono ?_;rintro c e ⟨rfl,rfl⟩)
       |(at_builtin;refine kC rfl _ _ rfl b.heap.size _ (gB a) rfl (d.alloc _) ⟨_,0,none⟩ 1 a rfl oi E x7 ?_;intro s t p q))
     go_roundw
     case rel=>exact⟨a+1,E,E,x9,by rw[l.out];exact p,(g.alloc E _).grown q x7 (λj b=>(d.lt j b).1)⟩
     case measure=>simp[intOf];omega
    ·have l:Hid (gB (a+1)=gB a):=F0 a n;have o:¬(0:Int)<((pp a).1:Int):=E;go_wp2_with (go_at_call 31;refine(qg a _ k m).mono ?_;rintro c e ⟨rfl,rfl⟩);go_roundw
     case rel=>exact⟨a+1,E,E,x9,by rw[l.out];exact d,g⟩
     case measure=>simp[intOf];omega
   ·have c:a=65:=by omega
    subst c;rw[DY]at d;go_wp2;go_ret;exact⟨_,X,d,g⟩
def kV(a:Int):Int:=if pick a 100<60 then iW.getD (pick a 100 % 7).toNat 0 else iW.getD (pick (a.tdiv 100) 27).toNat 0
theorem Rk(a:Int)(b: -9223372036854775808<=a)(c:a<=9223372036854775807): -9223372036854775808<=a.tdiv 100∧a.tdiv 100<=9223372036854775807:=by
 by_cases b:0<=a
 ·rw[kO b];omega
 ·have:a.tdiv 100= -((-a).tdiv 100):=by rw[Int.neg_tdiv,Int.neg_neg]
  rw[this,kO E];omega
theorem FX(a:Int)(f:World)(j: -9223372036854775808<=a)(k:a<=9223372036854775807):Calls prog 14 #[.int .i64 a] f λe i=>e=.returned (.int .i64 (kV a))∧Below f.heap.size f i:=by
 have y:=qe a 100 E;have y:=p9 a 100 E;by_cases r:pick a 100<60
 ·have⟨b,c⟩:=eaa (iW.getD (pick a 100 % 7).toNat 0);have l:Hid (kV a=b):=by show kV a=_;rw[kV,ai r,c]
  have m:Hid (b=iW.getD (pick a 100 % 7).toNat 0):=c;clear c;go_enter func14,ntmps14;go_wp2_with fail;refine(zV f).mono ?_;rintro e n ⟨t,rfl,g,o⟩;obtain⟨p,u,rfl,v,w,d,_⟩:=g.at (by simp[iW]);have q:iW.length=27:=rfl;rw[q]at d ⊢;have x:n.cell? ⟨p,(pick a 100 % 7).toNat,none⟩=some (.int .i64 b):=by rw[m.out];exact d _ E
  clear g d;go_wp2_with (go_at_call 15;refine(iT a 100 _ j k E E).mono ?_;rintro e i ⟨rfl,rfl⟩);go_ret;exact⟨aY (by rw[l.out]),o⟩
 ·have⟨b,c⟩:=eaa (iW.getD (pick (a.tdiv 100) 27).toNat 0);have l:Hid (kV a=b):=by show kV a=_;rw[kV,af r,c]
  have m:Hid (b=iW.getD (pick (a.tdiv 100) 27).toNat 0):=c;clear c;have s:=Rk a j k;have c:=qe (a.tdiv 100) 27 E;have c:=p9 (a.tdiv 100) 27 E;go_enter func14,ntmps14;go_wp2_with fail;refine(zV f).mono ?_;rintro e n ⟨t,rfl,g,o⟩;obtain⟨p,u,rfl,v,w,d,_⟩:=g.at (by simp[iW]);have q:iW.length=27:=rfl;rw[q]at d ⊢;have x:n.cell? ⟨p,(pick (a.tdiv 100) 27).toNat,none⟩=some (.int .i64 b):=by rw[m.out];exact d _ E
  clear g d;go_wp2_with fail;refine(iT a 100 _ j k E E).mono ?_;rintro e i ⟨rfl,rfl⟩;go_wp2_with fail;refine(iT (a.tdiv 100) 27 _ s.1 s.2 E E).mono ?_;rintro e i ⟨rfl,rfl⟩;go_wp2;go_ret;exact⟨aY (by rw[l.out]),o⟩
theorem Bm:iW.all (λa=>ak.any λb=>(b.q:Int)==a)=true:=x6
theorem xH(a:Nat)(b:a<27):iW.getD a 0∈iW:=by
 rw[aG,aE (show a<iW.length from b)];exact uW _
theorem FY(a:Int):kV a∈iW:=by
 unfold kV;have b:=qe (a.tdiv 100) 27 E;have b:=p9 (a.tdiv 100) 27 E;split
 ·exact xH _ E
 ·exact xH _ E
theorem Bl(b:Int):∃a∈ak,kV b=(a.q:Int):=by
 have:=aM.1 Bm _ (FY b);obtain⟨a,b,c⟩:=uV.1 this;exact⟨a,b,(br.1 c).symm⟩
theorem gO.sg{a T:Nat}(d:gO a T b g c):T<c.heap.size:=d.row.lt
theorem vL(_F:bV b){a y:Nat}(c:a<b.q)(d:y<b.q):b.nB a y=(dz b.p b.q a y:Nat):=by
 rw[FD.nB,ai ⟨jh c,jh d⟩];rfl
theorem mC(_F:bV b){a y:Nat}(c:a<b.q)(d:y<b.q):b.jI a y=(b.mul a y:Nat):=by
 rw[FD.jI,ai ⟨jh c,jh d⟩];rfl
theorem M7(_F:bV b)(a:d<b.q):b.pB d=(jC b.p b.q d:Nat):=by
 rw[FD.pB,ai (jh a)];rfl
theorem inv_zero(a:d<b.q)(c:d=0):b.kv d (-1)= -1:=by
 rw[FD.kv,af (by simp[jh a]),af E,ai E,ai E]
theorem lW(a:b∈ak)(c:d<b.q)(e:d≠0):b.kv d (-1)=(b.pw d (b.q-2):Nat):=by
 have e:=dE a;have a:=e.q2;rw[FD.kv,af (by simp[jh c]),af E,af E]
 have:((-1:Int) % ((b.q-1:Nat):Int)).toNat=(b.q-2):=by
  have a:(-1:Int)=((b.q-2:Nat):Int)+(-1)*((b.q-1:Nat):Int):=E;rw[a,Int.add_mul_emod_self_right, <-uU,aN];exact Nat.mod_eq_of_lt E
 rw[this];rfl
theorem xB(c:b∈ak)(a:Nat)(d:Nat):b.pw a d<b.q:=by
 have a:=dE c;exact a.xy _ (bZ _ (by have:=a.q2;omega))
theorem R8(e:b∈ak)(a:Nat)(c:Nat):b.pw a c≠0∧b.lg (b.pw a c)=b.lg a*c % (b.q-1):=by
 have d:=dE e;have e:b.lg a*c % (b.q-1)<b.q-1:=bZ _ (by have:=d.q2;omega);exact⟨(d.full _ e).1,d.Mc _ e⟩
theorem t11(a:b∈ak)(c:d<b.q)(f:d≠0):b.jI d (b.kv d (-1))=1:=by
 have e:=dE a;have g:=e.q2;have g:=R8 a d (b.q-2)
 rw[lW a c f,mC e c (xB a _ _),FD.mul,af E,g.2,RO,show b.lg d+b.lg d*(b.q-2)=b.lg d*(b.q-1)from by
  rw[show b.q-1=(b.q-2)+1 from E,Nat.mul_add,BJ];omega,Nat.mul_mod_left]
 rfl
def dg(a b j:Nat):Nat:=b / a ^ j % a
def lO(a b c:Nat):List Int:=(List.range c).map λj=>((dg a b j:Nat):Int)
theorem IN(a b c:Nat):lO a b (c+1)=lO a b c++[((dg a b c:Nat):Int)]:=by
 unfold lO;rw[j5,dN];rfl
theorem g8(b c a:Nat):(lO b c a).length=a:=by simp[lO]
theorem nG(a b c j:Nat)(d:j<c):(lO a b c).getD j 0=((dg a b j:Nat):Int):=by
 rw[aG,aE (by rw[g8];exact d)];simp[lO]
theorem kE(b a d:Nat)(c:World)(l:b<=1000000)(t:1<=a)(u:a<=64)(v:d<=1000):Calls prog 33 #[.int .i64 b,.int .i64 a,.int .i64 d] c λf l=>∃e,f=.returned e∧aV c.heap.size e (lO a b d) l∧Below c.heap.size c l:=by
 go_enter func33,ntmps33;go_wp2;go_loopw [0,7,8] (λn e g wr=>∃j y:Nat,j<=d∧y<=b∧n=.int .i64 y∧g=.int .i64 j∧Hid (y=b / a ^ j)∧aV c.heap.size e (lO a b j) wr∧Below c.heap.size c wr) (λ_ _ g _=>d-(intOf g).toNat)
 case atStart=>exact⟨0,b,E,E,X,X,by simp[Hid],aV.nil _ _,XK _ _⟩
 case round=>
  obtain⟨j,y,w,x,rfl,rfl,m,i,k⟩:=hrel;have e:=k.size;have e:=g8 a b j;by_cases e:j<d
  ·have e:y / a<=y:=j6 _ _;have e:y % a<a:=bZ _ E
   have o:Hid (lO a b (j+1)=lO a b j++[((y % a:Nat):Int)]):=by
    show _=_;rw[IN,m.out];rfl
   have p:Hid (y / a=b / a ^ (j+1)):=by
    show _=_;rw[m.out,jM,iK]
   go_wp2_with (at_builtin;refine kC X _ _ X c.heap.size _ (lO a b j) X (i.alloc _) ⟨_,0,none⟩ 1 (((y % a:Nat):Int)) X oi E x7 ?_;intro z A q r)
   go_roundw
   case rel=>exact⟨j+1,y / a,E,E,by rw[Is y a E],x9,p.out,by rw[o.out];exact q,(k.alloc E _).grown r x7 (λe g=>(i.lt e g).1)⟩
   case measure=>simp[intOf];omega
  ·have f:j=d:=by omega
   have s:Hid (aV c.heap.size u7 (lO a b d) wr):=by rw[<-f];exact i
   go_wp2;go_ret;exact⟨_,X,s.out,k⟩
def horner(a:Nat)(b:Nat->Nat)(c:Nat):Nat->Nat
 |0=>0
 |k+1=>horner a b c k*a+b (c-1-k)
theorem zk(a:Nat)(b:Nat->Nat)(c:Nat)(d:a<=64)(e:∀j,b j<64):∀k,horner a b c k<64 ^ k
 |0=>by simp[horner]
 |k+1=>by
  have f:=zk a b c d e k;have g:=e (c-1-k);rw[horner,iK];have e:horner a b c k*a<=horner a b c k*64:=Nat.mul_le_mul_left _ d;have:(horner a b c k+1)*64<=64 ^ k*64:=BI 64 f;rw[Pb,Nat.one_mul]at this;omega
theorem xm(g i b a:Nat)(c:Nat->Nat)(f:World)(o:b<=64)(q:a<=6)(l:∀j,c j<64)(p:∀j,j<a->f.cell? ⟨g,j,none⟩=some (.int .i64 (c j:Nat))):Calls prog 58 #[.slice (some ⟨g,0,none⟩) a i,.int .i64 b] f λr s=>r=.returned (.int .i64 (horner b c a a:Nat))∧s=f:=by
 have t:Hid (∀j,j<a->f.cell? ⟨g,j,none⟩=some (.int .i64 (c j:Nat))):=p;have u:Hid (∀i,i<=a->horner b c a i<68719476736):=λi r=>aj (zk b c a o l i) (aK (oV E (aK r q)) x5)
 have v:Hid (∀j,c j<64):=l;clear p l;go_enter func58,ntmps58;go_wp2
 go_loop [5,6] (λw m=>∃e:Nat,e<=a∧m=.int .i64 ((e:Int)-1)∧w=.int .i64 (horner b c a (a-e):Nat)) (λ_ m=>(intOf m+1).toNat)
 case atStart=>exact⟨a,E,X,by rw[fN];rfl⟩
 case round=>
  obtain⟨e,z,k,rfl⟩:=hrel;have x:=u.out (a-e) E;cases e with
  |succ d=>
   have n:u6=.int .i64 (d:Int):=by rw[k];go_num
   clear k;subst n;have e:f.cell? ⟨g,d,none⟩=some (.int .i64 (c d:Nat)):=t.out _ E;have e:=v.out d;have⟨e,f⟩:=eaa (horner b c a (a-(d+1)))
   have y:Hid (horner b c a (a-d)=e*b+c d):=by
    show _=_;rw[f,show a-d=(a-(d+1))+1 from E,horner,show a-1-(a-(d+1))=d from E]
   rw[<-f]at x ⊢;clear f;have a:e*b<=68719476736*64:=cT E o;have a:(e:Int)*(b:Int)<=4398046511104:=Xq;have a:0<=(e:Int)*(b:Int):=Xq;go_wp2
   go_round
   case rel=>exact⟨d,E,x9,by rw[y.out];go_num⟩
   case measure=>simp[intOf]
  |zero=>
   have n:u6=.int .i64 (-1):=by rw[k];rfl
   clear k;subst n;go_wp2;go_ret;exact⟨X,X⟩
theorem xl(e f a b:Nat)(c:Nat->Nat)(d:World)(_hp:1<=a)(g:a<=64)(h:b<=6)(_hpn:a ^ b<=4096)(i:∀j,c j<a)(k:∀j,j<b->d.cell? ⟨e,j,none⟩=some (.int .i64 (c j:Nat))):Calls prog 58 #[.slice (some ⟨e,0,none⟩) b f,.int .i64 a] d λl m=>l=.returned (.int .i64 (horner a c b b:Nat))∧m=d:=
 xm e f a b c d g h (λj=>aj (i j) g) k
def rf(a b c gen:Nat)(d:Value):Value:=.agg #[.int .i64 a,.int .i64 b,.int .i64 c,.int .i64 gen,d]
def Hs(a:FD)(b c:Nat):Nat:=if a.m=1 then(b+c) % a.p else if a.p=2 then b ^^^ c else horner a.p (λj=>(dg a.p b j+dg a.p c j) % a.p) a.m a.m
def DJ(a:FD)(b:Nat):Nat:=horner a.p (λj=>(a.p-dg a.p b j) % a.p) a.m a.m
def Po(a:FD):Bool:=nC a.q λb=>DJ a b==jC a.p a.q b && nC a.q λc=>Hs a b c==dz a.p a.q b c
theorem ug:ak.all Po=true:=x6
theorem QN(d:b∈ak)(a c:Nat)(e:a<b.q)(f:c<b.q):Hs b a c=dz b.p b.q a c:=by
 have:=dJ (aM.1 ug b d) a e;rw[aI]at this;exact br.1 (dJ this.2 c f)
theorem QR(c:b∈ak)(a:Nat)(d:a<b.q):DJ b a=jC b.p b.q a:=by
 have:=dJ (aM.1 ug b c) a d;rw[aI]at this;exact br.1 this.1
theorem KG(a b:Nat)(c:a<64)(d:b<64):bits .xor .i64 (a:Int) (b:Int)=((a ^^^ b:Nat):Int):=Ac a b c d
theorem iN(f:Below d c i):(∀a b,a<d->i.cell? ⟨a,b,none⟩=c.cell? ⟨a,b,none⟩)∧(∀a b,a<d->i.frozen? ⟨a,b,none⟩=c.frozen? ⟨a,b,none⟩):=
 ⟨λa b e=>f.cell (p:=⟨a,b,none⟩) e,λa b e=>f.frozen (p:=⟨a,b,none⟩) e⟩
theorem dp(a:FD)(gen:Nat)(f:Value)(b:Int)(c:World):Calls prog 21 #[rf a.q a.p a.m gen f,.int .i64 b] c λg i=>g=.returned (.bool (a.has b))∧Below c.heap.size c i:=by
 unfold rf;by_cases e:0<=b
 ·have d:Hid (a.has b=decide (b<a.q)):=by show a.has b=_;simp[FD.has,e]
  go_enter func21,ntmps21;go_wp2;go_ret;exact⟨ic (by rw[d.out]),(XK _ _).alloc (aa _) _⟩
 ·have d:Hid (a.has b=false):=by show a.has b=_;simp[FD.has,e]
  go_enter func21,ntmps21;go_wp2;go_ret;exact⟨ic (by rw[d.out]),(XK _ _).alloc (aa _) _⟩
theorem Ht(gen:Nat)(e:Value)(c f:Int)(a:World)(h:b.has c=false∨b.has f=false):Calls prog 41 #[rf b.q b.p b.m gen e,.int .i64 c,.int .i64 f] a λg m=>g=.returned (.int .i64 (-1))∧Below a.heap.size a m:=by
 by_cases j:b.has c=true
 ·have r:b.has f=false:=by rcases h with h|h; ·rw [j] at h; cases h
                           ·exact h
  clear h;unfold rf;go_enter func41,ntmps41;go_wp2_with fail;refine(dp b gen e c _).mono ?_;rintro g k ⟨rfl,d⟩;obtain⟨n,o⟩:=iN d;have i:Hid (Below a.heap.size a k):=((XK _ _).alloc (aa _) _).trans (d.mono oi);clear d;go_wp2_with fail;refine(dp b gen e f _).mono ?_;rintro g p ⟨rfl,l⟩;have q:Hid (Below a.heap.size a p):=i.out.trans (l.mono i.out.size);clear l n o;go_wp2;go_ret;exact⟨X,q.out⟩
 ·have f:b.has c=false:=by simpa using j
  clear h j;unfold rf;go_enter func41,ntmps41;go_wp2_with fail;refine(dp b gen e c _).mono ?_;rintro g k ⟨rfl,d⟩;have i:Hid (Below a.heap.size a k):=((XK _ _).alloc (aa _) _).trans (d.mono oi);clear d;go_wp2;go_ret;exact⟨X,i.out⟩
theorem NG(j:b.m=1)(m:1<=b.p)(p:b.p<=64)(gen:Nat)(f:Value)(c d:Nat)(a:World)(q:c<64)(r:d<64)(s:b.has c=true)(t:b.has d=true):Calls prog 41 #[rf b.q b.p b.m gen f,.int .i64 c,.int .i64 d] a λg m=>g=.returned (.int .i64 ((c+d) % b.p:Nat))∧Below a.heap.size a m:=by
 have m:((b.m:Int)==1)=true:=by rw[j];rfl
 clear j;unfold rf;go_enter func41,ntmps41;go_wp2_with fail;refine(dp b gen f c _).mono ?_;rintro g k ⟨rfl,e⟩;obtain⟨c,j⟩:=iN e;have c:a.heap.size<k.heap.size:=by have:=e.size;simp at this;omega
 have l:Hid (Below a.heap.size a k):=((XK _ _).alloc (aa _) _).trans (e.mono oi);clear e;go_wp2_with fail;refine(dp b gen f d _).mono ?_;rintro g n ⟨rfl,i⟩;obtain⟨c,d⟩:=iN i;have o:Hid (Below a.heap.size a n):=l.out.trans (i.mono l.out.size);clear i;go_wp2;go_ret;exact⟨aY x9,o.out⟩
theorem NI(m:b.m≠1)(j:b.p=2)(gen:Nat)(f:Value)(c d:Nat)(a:World)(n:c<64)(o:d<64)(p:b.has c=true)(s:b.has d=true):Calls prog 41 #[rf b.q b.p b.m gen f,.int .i64 c,.int .i64 d] a λg p=>g=.returned (.int .i64 (c ^^^ d:Nat))∧Below a.heap.size a p:=by
 have p:((b.m:Int)==1)=false:=Xp;have p:((b.p:Int)==2)=true:=by rw[j];rfl
 clear m j;unfold rf;go_enter func41,ntmps41;go_wp2_with fail;refine(dp b gen f c _).mono ?_;rintro g k ⟨rfl,e⟩;obtain⟨j,m⟩:=iN e;have j:a.heap.size<k.heap.size:=by have:=e.size;simp at this;omega
 have l:Hid (Below a.heap.size a k):=((XK _ _).alloc (aa _) _).trans (e.mono oi);clear e;go_wp2_with fail;refine(dp b gen f d _).mono ?_;rintro g q ⟨rfl,i⟩;obtain⟨e,f⟩:=iN i;have r:Hid (Below a.heap.size a q):=l.out.trans (i.mono l.out.size);clear i;go_wp2;go_ret;exact⟨aY (KG c d n o),r.out⟩
theorem aV.row(i:aV d f e c)(g:Nat)(k:e.length=g)(l:0<g):∃a b h,f=.slice (some ⟨a,0,none⟩) g b∧d<=a∧a<c.heap.size∧g<=b∧b<=maxLen∧bD a b 3 h c∧(∀j,j<g->h j=.int .i64 (e.getD j 0)):=by
 have l:=i;rcases l.2 with⟨_,i⟩|⟨a,b,g,m,n,h,q,o,r,p⟩
 ·omega
 ·refine⟨a,b,λi=>(g[i]?).getD (.int .i64 0),by rw[m,k],n,X7 h,E,o,⟨g,h,E,λi l=>?_⟩,λj q=>?_⟩
  ·show _=some (Option.getD _ _);rw[au E];rfl
  ·have a:j<e.length:=by omega
   have b:(g.toList.take (e.length*1))[j]?=(e.map (Value.int .i64))[j]?:=by rw[p]
   rw[dL,ai E,ck,aE a]at b;show(g[j]?).getD _=_;rw[<-cU,b,aG,aE a];rfl
structure gN(b:Nat)(D:FD)(gen:Nat)(v:Value)(w:World):Prop where
 c0:w.cell? ⟨b,0,none⟩=some (.int .i64 D.q)
 c1:w.cell? ⟨b,1,none⟩=some (.int .i64 D.p)
 c2:w.cell? ⟨b,2,none⟩=some (.int .i64 D.m)
 c3:w.cell? ⟨b,3,none⟩=some (.int .i64 gen)
 c4:w.cell? ⟨b,4,none⟩=some v
theorem gN.below{a B:Nat}(e:gN a b d f c)(j:Below B c i)(g:a<B):gN a b d f i:=
 have h:=(iN j).1
 ⟨(h a 0 g).trans e.c0,(h a 1 g).trans e.c1,(h a 2 g).trans e.c2,(h a 3 g).trans e.c3,(h a 4 g).trans e.c4⟩
theorem gN.other(a:gN d b j f c)(h:i.heap[d]?=c.heap[d]?):gN d b j f i:=
 have e:∀g,i.cell? ⟨d,g,none⟩=c.cell? ⟨d,g,none⟩:=λg=>Ya (a:=⟨d,g,none⟩) h
 ⟨(e 0).trans a.c0,(e 1).trans a.c1,(e 2).trans a.c2,(e 3).trans a.c3,(e 4).trans a.c4⟩
theorem eL(a:FD)(gen:Nat)(b:Value)(c:World):gN c.heap.size a gen b (c.alloc (.cells #[.int .i64 a.q,.int .i64 a.p,.int .i64 a.m,.int .i64 gen,b] 32)):=
 ⟨oi,oi,oi,oi,oi⟩
theorem Lx(a b j:Nat)(c:1<=a):dg a b j<a:=bZ _ c
theorem NF(hm:2<=b.m)(av:b.m<=6)(hp:3<=b.p)(F:b.p<=64)(R:b.p ^ b.m<=4096)(gen:Nat)(i:Value)(d f:Nat)(a:World)(ha:d<64)(hb:f<64)(h1:b.has d=true)(h2:b.has f=true):Calls prog 41 #[rf b.q b.p b.m gen i,.int .i64 d,.int .i64 f] a λl S=>l=.returned (.int .i64 (horner b.p (λj=>(dg b.p d j+dg b.p f j) % b.p) b.m b.m:Nat))∧Below a.heap.size a S:=by
 have a4:((b.m:Int)==1)=false:=Xp;have a4:((b.p:Int)==2)=false:=Xp;have ax:Hid (b.p ^ b.m<=4096):=R;clear R;unfold rf;go_enter func41,ntmps41;go_wp2_with fail;refine(dp b gen i d _).mono ?_;rintro l G ⟨rfl,x⟩;have I:Hid (gN a.heap.size b gen i G∧Below a.heap.size a G):=⟨(eL b gen i a).below x oi,((XK _ _).alloc (aa _) _).trans (x.mono oi)⟩;have a0:a.heap.size<G.heap.size:=by have:=x.size;simp at this;omega
 obtain⟨m,n,o,p,q⟩:=I.out.1;clear x;go_wp2_with fail;refine(dp b gen i f _).mono ?_;rintro l y ⟨rfl,z⟩;have J:Hid (gN a.heap.size b gen i y∧Below a.heap.size a y):=⟨I.out.1.below z a0,I.out.2.trans (z.mono E)⟩;have a1:a.heap.size<y.heap.size:=by have:=z.size;omega
 clear m n o p q z;obtain⟨m,n,o,p,q⟩:=J.out.1;go_wp2_with fail;refine(kE d b.p b.m _ E E F E).mono ?_;rintro l t ⟨vx,rfl,T,A⟩;have K:Hid (gN a.heap.size b gen i t∧Below a.heap.size a t):=⟨J.out.1.below A a1,J.out.2.trans (A.mono E)⟩;have a2:a.heap.size<t.heap.size:=by have:=A.size;omega
 clear m n o p q;obtain⟨m,n,o,p,q⟩:=K.out.1;have M:Hid (aV y.heap.size vx (lO b.p d b.m) t):=T;clear A T;go_wp2_with fail;refine(kE f b.p b.m _ E E F E).mono ?_;rintro l u ⟨vy,rfl,U,v⟩;have N:Hid (gN a.heap.size b gen i u∧Below a.heap.size a u):=⟨K.out.1.below v a2,K.out.2.trans (v.mono E)⟩;have x:t.heap.size<=u.heap.size:=v.size;obtain⟨e,B,O,rfl,a5,a6,a7,a8,V,W⟩:=(M.out.below v (λc Y=>(M.out.lt c Y).2)).row b.m (g8 _ _ _) E;obtain⟨s,P,C,rfl,a9,ba,bb,bc,w,Z⟩:=U.row b.m (g8 _ _ _) E
 have t:e<s:=by
  have:=(M.out.lt e X).2;omega
 have D:Hid ((∀j,j<b.m->O j=.int .i64 (dg b.p d j:Nat))∧(∀j,j<b.m->C j=.int .i64 (dg b.p f j:Nat))∧bD e B 3 O u∧bD s P 3 C u):=
  ⟨λj k=>by rw[W j k,nG _ _ _ _ k],λj k=>by rw[Z j k,nG _ _ _ _ k],V,w⟩
 clear m n o p q v U W Z V w;obtain⟨m,n,o,p,q⟩:=N.out.1;go_wp2
 go_loopw [9] (λQ wr=>∃(c:Nat) (r:Nat->Value),c<=b.m∧Q=.int .i64 c∧bD e B 3 r wr∧(∀j,j<c->r j=.int .i64 ((dg b.p d j+dg b.p f j) % b.p:Nat))∧(∀j,c<=j->j<b.m->r j=.int .i64 (dg b.p d j:Nat))∧
   bD s P 3 C wr∧gN a.heap.size b gen i wr∧Below a.heap.size a wr) (λQ _=>b.m-(intOf Q).toNat)
 case atStart=>exact⟨0,O,E,X,D.out.2.2.1,λj k=>E,λj _ k=>D.out.1 j k,D.out.2.2.2,N.out.1,N.out.2⟩
 case round=>
  clear m n o p q;obtain⟨c,r,Y,rfl,ab,ad,ao,w,a3,ar⟩:=hrel;obtain⟨m,n,o,p,q⟩:=a3
  have g:Hid (bD e B 3 r wr∧(∀j,j<c->r j=.int .i64 ((dg b.p d j+dg b.p f j) % b.p:Nat))∧(∀j,c<=j->j<b.m->r j=.int .i64 (dg b.p d j:Nat))∧
   bD s P 3 C wr∧gN a.heap.size b gen i wr∧Below a.heap.size a wr):=⟨ab,ad,ao,w,⟨m,n,o,p,q⟩,ar⟩
  clear ab ad ao w ar;by_cases i:c<b.m
  ·have m:wr.cell? ⟨e,c,none⟩=some (.int .i64 (dg b.p d c:Nat)):=by rw[g.out.1.cell c E,g.out.2.2.1 c E i]
   have m:wr.cell? ⟨s,c,none⟩=some (.int .i64 (dg b.p f c:Nat)):=by rw[g.out.2.2.2.1.cell c E,D.out.2.1 c i]
   have i:wr.frozen? ⟨e,c,none⟩=false:=g.out.1.free c;have i:=Lx b.p d c E;have i:=Lx b.p f c E;go_wp2
   go_region
   go_wp2;go_roundw
   case rel=>exact⟨c+1,_,E,x9,(g.out.1.store _ _).drew,λj k=>if l:j=c then by rw[l,mH];rfl else(upd_ne _ _ _ l).trans (g.out.2.1 j E),λj m i=>(upd_ne _ _ _ E).trans (g.out.2.2.1 j E i),(g.out.2.2.2.1.setOther ⟨e,c,none⟩ (by show s≠e;omega) _).drew,g.out.2.2.2.2.1.other (XR wr ⟨e,c,none⟩ _ _ (by show a.heap.size≠e;omega)),(g.out.2.2.2.2.2.setCell (by show a.heap.size<=e;omega) _).drew⟩
   case measure=>simp[intOf];omega
  ·have HC:Hid (∀j,j<b.m->wr.cell? ⟨e,j,none⟩=some (.int .i64 ((dg b.p d j+dg b.p f j) % b.p:Nat))):=λj k=>by rw[g.out.1.cell j E,g.out.2.1 j E]
   go_wp2_with fail
   refine(xl e B b.p b.m (λj=>(dg b.p d j+dg b.p f j) % b.p) wr E F av ax.out (λj=>bZ _ E) HC.out).mono ?_;rintro l S ⟨rfl,rfl⟩;go_wp2;go_ret;exact⟨X,g.out.2.2.2.2.2⟩
theorem Dv(k:b∈ak)(gen:Nat)(h:Value)(d e:Int)(a:World):Calls prog 41 #[rf b.q b.p b.m gen h,.int .i64 d,.int .i64 e] a λj l=>j=.returned (.int .i64 (b.nB d e))∧Below a.heap.size a l:=by
 have c:=dE k;by_cases f:b.has d=true
 ·by_cases g:b.has e=true
  ·obtain⟨i,rfl,m⟩:=fT f;obtain⟨y,rfl,n⟩:=fT g;have j:=c.uP;have j:b.nB i y=(Hs b i y:Nat):=by rw[QN k i y m n,FD.nB,ai ⟨f,g⟩];rfl
   rw[j];unfold Hs;by_cases k:b.m=1
   ·rw[ai k];exact NG k (by have:=c.p2;omega) c.Nw gen h i y a E E f g
   ·rw[af k];by_cases l:b.p=2
    ·rw[ai l];exact NI k l gen h i y a E E f g
    ·rw[af l];exact NF (by have:=c.m1;omega) c.m6 (by have:=c.p2;omega) c.Nw (by rw[<-c.qp];omega) gen h i y a E E f g
  ·have j:b.nB d e= -1:=by rw[FD.nB,af (by simp[g])]
   rw[j];exact Ht gen h d e a (J (by simpa using g))
 ·have j:b.nB d e= -1:=by rw[FD.nB,af (by simp[f])]
  rw[j];exact Ht gen h d e a (I (by simpa using f))
theorem Qx(d a:Nat)(b:d<a):(-(d:Int)) % (a:Int)=(((a-d) % a:Nat):Int):=by
 have b:(-(d:Int))=((a-d:Nat):Int)+(-1)*(a:Int):=E;rw[b,Int.add_mul_emod_self_right,uU]
theorem NU(V:1<=b.m)(O:b.m<=6)(W:2<=b.p)(A:b.p<=64)(B:b.p ^ b.m<=4096)(gen:Nat)(g:Value)(d:Nat)(a:World)(Y:d<64)(Z:b.has d=true):Calls prog 35 #[rf b.q b.p b.m gen g,.int .i64 d] a λi C=>i=.returned (.int .i64 (DJ b d:Nat))∧Below a.heap.size a C:=by
 have P:Hid (b.p ^ b.m<=4096):=B;have Q:Hid (DJ b d=horner b.p (λj=>(b.p-dg b.p d j) % b.p) b.m b.m):=rfl;clear B;unfold rf;go_enter func35,ntmps35;go_wp2_with fail;refine(dp b gen g d _).mono ?_;rintro i v ⟨rfl,r⟩;have w:Hid (gN a.heap.size b gen g v∧Below a.heap.size a v):=⟨(eL b gen g a).below r oi,((XK _ _).alloc (aa _) _).trans (r.mono oi)⟩;have R:a.heap.size<v.heap.size:=by have:=r.size;simp at this;omega
 obtain⟨m,n,o,p,q⟩:=w.out.1;clear r;go_wp2_with fail;refine(kE d b.p b.m _ E E A E).mono ?_;rintro i s ⟨vx,rfl,D,t⟩;have x:Hid (gN a.heap.size b gen g s∧Below a.heap.size a s):=⟨w.out.1.below t R,w.out.2.trans (t.mono E)⟩;have r:a.heap.size<s.heap.size:=by have:=t.size;omega
 obtain⟨f,u,y,rfl,ab,ad,ao,ar,F,G⟩:=D.row b.m (g8 _ _ _) E
 have I:Hid ((∀j,j<b.m->y j=.int .i64 (dg b.p d j:Nat))∧bD f u 3 y s):=
  ⟨λj k=>by rw[G j k,nG _ _ _ _ k],F⟩
 clear m n o p q t D G F;obtain⟨m,n,o,p,q⟩:=x.out.1;go_wp2
 go_loopw [6] (λz wr=>∃(c:Nat) (l:Nat->Value),c<=b.m∧z=.int .i64 c∧bD f u 3 l wr∧(∀j,j<c->l j=.int .i64 ((b.p-dg b.p d j) % b.p:Nat))∧(∀j,c<=j->j<b.m->l j=.int .i64 (dg b.p d j:Nat))∧
   gN a.heap.size b gen g wr∧Below a.heap.size a wr) (λz _=>b.m-(intOf z).toNat)
 case atStart=>exact⟨0,y,E,X,I.out.2,λj k=>E,λj _ k=>I.out.1 j k,x.out.1,x.out.2⟩
 case round=>
  clear m n o p q;obtain⟨c,l,hk,rfl,J,K,M,S,N⟩:=hrel;obtain⟨m,n,o,p,q⟩:=S
  have e:Hid (bD f u 3 l wr∧(∀j,j<c->l j=.int .i64 ((b.p-dg b.p d j) % b.p:Nat))∧(∀j,c<=j->j<b.m->l j=.int .i64 (dg b.p d j:Nat))∧
   gN a.heap.size b gen g wr∧Below a.heap.size a wr):=⟨J,K,M,⟨m,n,o,p,q⟩,N⟩
  clear J K M N;by_cases g:c<b.m
  ·have l:wr.cell? ⟨f,c,none⟩=some (.int .i64 (dg b.p d c:Nat)):=by rw[e.out.1.cell c E,e.out.2.2.1 c E g]
   have g:wr.frozen? ⟨f,c,none⟩=false:=e.out.1.free c;have T:=Lx b.p d c E;go_wp2
   go_region
   go_wp2;go_roundw
   case rel=>exact⟨c+1,_,E,x9,(e.out.1.store _ _).drew,λj k=>if i:j=c then by rw[i,mH,Qx _ _ T]else(upd_ne _ _ _ i).trans (e.out.2.1 j E),λj l g=>(upd_ne _ _ _ E).trans (e.out.2.2.1 j E g),e.out.2.2.2.1.other (XR wr ⟨f,c,none⟩ _ _ (by show a.heap.size≠f;omega)),(e.out.2.2.2.2.setCell (by show a.heap.size<=f;omega) _).drew⟩
   case measure=>simp[intOf];omega
  ·have U:Hid (∀j,j<b.m->wr.cell? ⟨f,j,none⟩=some (.int .i64 ((b.p-dg b.p d j) % b.p:Nat))):=λj k=>by rw[e.out.1.cell j E,e.out.2.1 j E]
   go_wp2_with fail
   refine(xl f u b.p b.m (λj=>(b.p-dg b.p d j) % b.p) wr E A O P.out (λj=>bZ _ E) U.out).mono ?_;rintro i C ⟨rfl,rfl⟩;go_wp2;go_ret;exact⟨aY (by rw[Q.out]),e.out.2.2.2.2⟩
theorem DK(i:b∈ak)(gen:Nat)(j:Value)(c:Int)(d:World):Calls prog 35 #[rf b.q b.p b.m gen j,.int .i64 c] d λk g=>k=.returned (.int .i64 (b.pB c))∧Below d.heap.size d g:=by
 have a:=dE i;by_cases e:b.has c=true
 ·obtain⟨f,rfl,m⟩:=fT e;have g:=a.uP;have g:b.pB f=(DJ b f:Nat):=by rw[QR i f m,FD.pB,ai e];rfl
  rw[g];exact NU a.m1 a.m6 a.p2 a.Nw (by rw[<-a.qp];omega) gen j f d E e
 ·have g:b.pB c= -1:=by rw[FD.pB,af e]
  have f:b.has c=false:=by simpa using e
  rw[g];clear g e i a;unfold rf;go_enter func35,ntmps35;go_wp2_with fail;refine(dp b gen j c _).mono ?_;rintro k n ⟨rfl,l⟩;have o:Hid (Below d.heap.size d n):=((XK _ _).alloc (aa _) _).trans (l.mono oi);clear l;go_wp2;go_ret;exact⟨X,o.out⟩
theorem DR(j:b∈ak)(gen:Nat)(c:Value)(d e:Int)(a:World):Calls prog 62 #[rf b.q b.p b.m gen c,.int .i64 d,.int .i64 e] a λf n=>f=.returned (.int .i64 (b.Re d e))∧Below a.heap.size a n:=by
 have k:Hid (b∈ak):=j;clear j;unfold rf;go_enter func62,ntmps62;go_wp2_with fail;refine(DK k.out gen c e _).mono ?_;rintro f l ⟨rfl,g⟩;have i:Hid (gN a.heap.size b gen c l∧Below a.heap.size a l):=⟨(eL b gen c a).below g oi,((XK _ _).alloc (aa _) _).trans (g.mono oi)⟩;obtain⟨o,p,q,r,s⟩:=i.out.1;clear g;go_wp2_with fail;refine(Dv k.out gen c d _ _).mono ?_;rintro f t ⟨rfl,m⟩;have u:Hid (Below a.heap.size a t):=i.out.2.trans (m.mono i.out.2.size);clear m o p q r s;go_wp2;go_ret;exact⟨X,u.out⟩
theorem jq(a j:Nat):(List.replicate a (0:Int)).getD j 0=0:=by
 rw[aG,jv];split<;>rfl
theorem iS (h:l.guard=none)(e f:Operand)(i:l.op=Op.makeSlice 22 e f)(b:Int)(a:Nat)(j:m.eval e=.int .i64 b)(k:m.eval f=.int .i64 b)(g:b=(a:Int))(d:a<=1000000)(n:∀d,aV c.heap.size (.slice (some ⟨c.heap.size,0,none⟩) a a) (List.replicate a 0) d->c.grownBy d none->wpList prog o q p (m.put l.dst (.slice (some ⟨c.heap.size,0,none⟩) a a)) d):wpList prog o q (l::p) m c:=by
 obtain⟨r,s,t,u,v⟩:=X5 lV;refine wpList_make_full c h e f 22 i c.heap.size 3 r (.int .i64 0) 1 underlying22 s t u .i64 .i64 b b a j k g g (by rw[v];omega) Xu (aa _) ?_;intro d b e;refine n d ?_ e;unfold aV;rw[ks,List.map_replicate]
 have d:(madeCells (Value.int .i64 0).cells (a*1)).toList=List.replicate a (.int .i64 0):=by
  rw[BJ];exact YO _ _
 rw[d]at b;exact b
