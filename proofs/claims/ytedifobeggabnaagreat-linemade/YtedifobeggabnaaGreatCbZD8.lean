/- Texts of ours, one behind the other: ZD8 ZD9 ZG1. -/
import Derived.Test.YtedifobeggabnaaGreatCbZD2
import Derived.Conc.WgGenN3
import Derived.Conc.CompanyDraw
namespace Go.Proofs.YtedifobeggabnaaGreat
variable {d:Array Bool}{c:Nat}
abbrev Yr:=@Go.Conc.mem_listed
abbrev YV:=@Go.Conc.stepG_value
section
open Go.Conc
open Go.ConcR (DC0)
section
variable {P:Program}{e:Bool}{p:Nat->Prop}{q:World->Prop}{l:(Nat->Prop)->Goroutine->World->Prop}{O:Nat->Prop}{n m:Nat}{g f:Goroutine}{w:World}{b:Frame}{a:Act}{k:List Item}{r:List Frame}{j:Array Oper}{i:Nat}{rest:List Nat}{o:Oper}
theorem PT(a:HG P e p q l n O g w):HG P e p q l (n+1) O g w:=by
 induction n generalizing O g w with
 |zero=>exact I a
 |succ n d=>
  rcases a with a|⟨h,a⟩
  ·exact I a
  ·refine J ⟨h,λb i=>?_⟩;have:=a b i;cases c:stepG P e g b with
   |go f j k=>
    rw[c]at this;exact⟨this.1,d this.2⟩
   |_=>rw[c]at this;exact this.elim
theorem gK(j:Nat)(a:HG P e p q l n O g w):HG P e p q l (n+j) O g w:=by
 induction j with
 |zero=>exact a
 |succ j b=>exact PT b
theorem aH(a:Goes P e (dW p q O) DC0 (λg w=>HG P e p q l m O g w) n g w):HG P e p q l (m+n) O g w:=by
 induction n generalizing g w with
 |zero=>exact a w (dW.refl w)
 |succ n d=>
  rcases a with a|⟨h,a⟩
  ·exact gK (n+1) (a w (dW.refl w))
  ·refine HG.step h λb i=>?_
   have:=a b i;cases c:stepG P e g b with
   |go f r s=>
    rw[c]at this;have⟨⟨j,k⟩,o⟩:=this;subst j k;exact⟨yU.idle p O _,by rw[kg];exact d o⟩
   |_=>rw[c]at this;exact this.elim
theorem fH(f:Value)(g:j[i]?=some o)(h:Region.wanted o (yielded j a.tmps)=true)(m:b.kind≠.early)(s:∀c,dW p q O w c->(execOp a.eval o).run P c=.ok (.value f) c)(t:∀c,dW p q O w c->∀d,d∈(execOp a.eval o).events P c #[]->BS p O c.heap.size d)(u:HG P e p q l n O (G (b.at (a.put o.dst f) (.inRegion j rest::k)) r) w):HG P e p q l (n+1) O (G (b.at a (.inRegion j (i::rest)::k)) r) w:=by
 refine HG.step X λc f=>?_
 rw[YV g h m (s c f)];refine⟨⟨X,X,X,aa _,λ_ _ _=>rfl,λd g=>?_⟩,by rw[kg];exact u.rely f⟩;rw[kg];exact t c f d (Yr g)
theorem fb{bk off:Nat}(d:Value)(t:j[i]?=some o)(u:Region.wanted o (yielded j a.tmps)=true)(v:b.kind≠.early)(s:p bk∨O bk)(x:w.cell? ⟨bk,off,none⟩=some d)(y:∀c:World,c.cell? ⟨bk,off,none⟩=some d->(execOp a.eval o).run P c=.ok (.value d) c)(z:∀c:World,c.cell? ⟨bk,off,none⟩=some d->(execOp a.eval o).events P c #[]= #[⟨.cell ⟨bk,off,none⟩,false,false⟩])(A:HG P e p q l n O (G (b.at (a.put o.dst d) (.inRegion j rest::k)) r) w):HG P e p q l (n+1) O (G (b.at a (.inRegion j (i::rest)::k)) r) w:=by
 have h:∀c,dW p q O w c->c.cell? ⟨bk,off,none⟩=some d:=λc f=>by
  have m:c.cell? ⟨bk,off,none⟩=w.cell? ⟨bk,off,none⟩:=by simp[World.cell?,f.qH bk s]
  rw[m];exact x
 refine fH d t u v (λc f=>y c (h c f)) (λc f m g=>?_) A;rw[z c (h c f)]at g;have g:m=⟨.cell ⟨bk,off,none⟩,false,false⟩:=by simpa using g
 subst g;have⟨g,m,t,d,_,_⟩:=fS (h c f);exact⟨X,aC d,s.elim (λc=>J ⟨c,X⟩) I⟩
theorem CM{f:FuncId}{args:Array Value}(d:j[i]?=some o)(g:Region.wanted o (yielded j a.tmps)=true)(h:b.kind≠.early)(m:∀c:World,(execOp a.eval o).run P c=.ok (.enter f args) c)(s:∀c:World,(execOp a.eval o).events P c #[]= #[])(t:HG P e p q l n O (G (Frame.enter P f args .normal) (b.at a (.inRegion j (i::rest)::k)::r)) w):HG P e p q l (n+1) O (G (b.at a (.inRegion j (i::rest)::k)) r) w:=by
 refine HG.step X λc u=>?_
 rw[stepG_enter d g h (m c)];have d:listed P b.fn a o c= #[]:=by unfold listed;rw[s c,seen_none]
 rw[d];exact⟨yU.idle p O c,by rw[kg];exact t.rely u⟩
theorem Fh(g:World->Obj)(d:j[i]?=some o)(m:Region.wanted o (yielded j a.tmps)=true)(s:b.kind≠.early)(t:∀c,dW p q O w c->(execOp a.eval o).run P c=.ok (.value (.pointer (some ⟨c.heap.size,0,none⟩))) { c with heap:=c.heap.push (g c)})(u:∀c,dW p q O w c->(execOp a.eval o).events P c #[]= #[])(v:∀c,dW p q O w c->HG P e p q l n (λf=>O f∨f=c.heap.size) (G (b.at (a.put o.dst (.pointer (some ⟨c.heap.size,0,none⟩))) (.inRegion j rest::k)) r) { c with heap:=c.heap.push (g c)}):HG P e p q l (n+1) O (G (b.at a (.inRegion j (i::rest)::k)) r) w:=by
 refine HG.step X λc h=>?_
 rw[YV d m s (t c h)]
 have m:nY O c { c with heap:=c.heap.push (g c)}=λf=>O f∨f=c.heap.size:=by
  funext f
  have d:({ c with heap:=c.heap.push (g c)}:World).heap.size=c.heap.size+1:=cZ ..;refine propext ⟨λd=>?_,λd=>?_⟩
  ·rcases d with d|⟨s,t⟩
   ·exact I d
   omega
  ·rcases d with d|d
   ·exact I d
   ·exact J ⟨E,E⟩
 refine⟨⟨X,X,X,by show c.heap.size<=(c.heap.push (g c)).size;rw[cZ];omega,λf s _=>?_,λt d=>?_⟩,by rw[m];exact v c h⟩
 ·grind
 ·have:=Yr d;rw[u c h]at this;simp at this
theorem wX(d:World->World)(m:j[i]?=some o)(s:Region.wanted o (yielded j a.tmps)=true)(t:b.kind≠.early)(u:∀c,dW p q O w c->(execOp a.eval o).run P c=.ok .skip (d c))(v:∀c,dW p q O w c->(d c).heap.size=c.heap.size∧((d c).tape=c.tape∧(d c).os=c.os∧(d c).output=c.output)∧∀f,¬O f->(d c).heap[f]?=c.heap[f]?)(x:∀c,dW p q O w c->∀g,g∈(execOp a.eval o).events P c #[]->BS p O c.heap.size g)(y:∀c,dW p q O w c->HG P e p q l n O (G (b.at (a.put o.dst undef) (.inRegion j rest::k)) r) (d c)):HG P e p q l (n+1) O (G (b.at a (.inRegion j (i::rest)::k)) r) w:=by
 refine HG.step X λc h=>?_
 rw[stepG_none m s t (u c h)];have⟨s,⟨t,u,z⟩,A⟩:=v c h
 have m:nY O c (d c)=O:=by
  funext f
  refine propext ⟨λd=>?_,I⟩;rcases d with d|⟨v,B⟩
  ·exact d
  ·omega
 refine⟨⟨t,u,z,E,λf _ d=>A f d,λg v=>?_⟩,by rw[m];exact y c h⟩;rw[m,s];exact x c h g (Yr v)
end
end
section
open Go.Conc
def BY(d:Array Oper):(Nat->Bool)->List Nat->Prop
 |D,[]=>∀a,a<d.size->D a=false->∃c,d[a]?=some c∧∃b,b∈c.after∧Region.binds .any b=true∧D b.on=false
 |D,a::f=>D a=false∧(∃c,d[a]?=some c∧∀b,b∈c.after->Region.binds .any b=true->D b.on=true)∧BY d (λe=>D e || decide (e=a)) f
theorem zM{b:Array Oper}(_:d.size=b.size):c∈Region.ready .any b d↔c<b.size∧d.getD c true=false∧∃g,b[c]?=some g∧∀a,a∈g.after->Region.binds .any a=true->d.getD a.on false=true:=by
 unfold Region.ready;rw[List.mem_filter,bj,aI,m7];refine⟨λ⟨f,h2,e⟩=>⟨f,h2,?_⟩,λ⟨f,h2,g,e,h4⟩=>⟨f,h2,?_⟩⟩
 ·have a:b[c]?=some b[c]:=au f;rw[a]at e ⊢;refine⟨_,X,λf g h=>?_⟩;have e:b[c].after.all (λa => !Region.binds .any a || d.getD a.on false)=true:=e;have:=m5.1 e f g;grind
 grind
def SX(L:Array Bool):Nat:=(L.toList.filter (λa => !a)).length
theorem CZ:∀(a:List Bool) (i:Nat),i<a.length->a.getD i true=false->((a.set i true).filter (λc => !c)).length+1=(a.filter (λc => !c)).length
 |[],i,b,_=>by simp at b
 |x::a,0,_,b=>by
  grind
 |x::a,i+1,d,b=>by
  have:=CZ a i (by simpa using d) (by simpa using b);grind
theorem PZ{L:Array Bool}{i:Nat}(a:i<L.size)(b:L.getD i true=false):SX (L.setIfInBounds i true)+1=SX L:=by
 have⟨c⟩:=L;unfold SX;simp only[ae];exact CZ c i (by simpa using a) (by simpa [Array.getD_eq_getD_getElem?,List.getD_eq_getElem?_getD]using b)
theorem Mb(a:SX d=0)(b:Nat)(c:b<d.size):d.getD b true=true:=by
 unfold SX at a;have a:=fY.1 a;rw[List.filter_eq_nil_iff]at a;have:=a d[b] oi
 simp_all
theorem T8(b:Array Oper)(p:∀(a:Nat) (i:Oper) (d:Edge),b[a]?=some i->d∈i.after->d.on<b.size):∀(g e:Nat) (L:Array Bool),L.size=b.size->SX L<=g->BY b (λa=>L.getD a true) (Region.linearise.go .any b g e L []):=by
 intro g;induction g with
 |zero=>
  intro e L j q;simp only[Region.linearise.go,List.reverse_nil,BY];intro a f k;rw[Mb E a E]at k;cases k
 |succ g r=>
  intro e L j q;simp only[Region.linearise.go]
  change BY b (λa=>L.getD a true) (match(Region.ready .any b L)[e % (Region.ready .any b L).length]? with
   |some a=>Region.linearise.go .any b g (e / (Region.ready .any b L).length) (L.setIfInBounds a true) [a]
   |none=>[].reverse)
  cases f:(Region.ready .any b L)[e % (Region.ready .any b L).length]? with
  |none=>
   have s:Region.ready .any b L=[]:=by
    cases t:Region.ready .any b L with
    |nil=>rfl
    |cons c n=>
     rw[t]at f;have l:e % (c::n).length<(c::n).length:=bZ _ oi;rw[aE l]at f;cases f
   simp only[List.reverse_nil,BY];intro a f k;have g:a ∉ Region.ready .any b L:=by rw[s];simp
   rw[zM j]at g;have d:=au f;refine⟨_,d,bK λu=>g ⟨f,k,_,d,λc h o=>?_⟩⟩;cases m:L.getD c.on true with
   |false=>exact absurd ⟨c,h,o,m⟩ u
   |true=>
    have:=p a _ c d h;have l:c.on<L.size:=E;rw[aw,au l]at m ⊢;exact m
  |some a=>
   have g:=BH f;have⟨l,f,i,k,m⟩:=(zM j).1 g;simp only[];rw[linearise_go_acc,List.reverse_singleton,List.singleton_append];refine⟨f,⟨i,k,λd g o=>?_⟩,?_⟩
   ·grind
   ·have:=r (e / (Region.ready .any b L).length) (L.setIfInBounds a true) (by simpa using j) (by have:=PZ (L:=L) (i:=a) E f;omega)
    have d:(λc=>(L.setIfInBounds a true).getD c true)=λc=>L.getD c true || decide (c=a):=by
     funext c
     by_cases h:c=a
     ·simp_all
     ·rw[aw,ay (λd=>h d.symm), <-aw];simp[h]
    rw[d]at this;exact this
section
variable {P:Program}{g:Bool}{l:Nat->Prop}{i:World->Prop}{f:(Nat->Prop)->Goroutine->World->Prop}{O:Nat->Prop}{n:Nat}{w:World}{b:Frame}{a:Act}{k:List Item}{j:List Frame}{e:Array Oper}
theorem G1(s:P.follows .mixedOrders=true)(t:∀(h:Nat) (q:Oper) (o:Edge),e[h]?=some q->o∈q.after->o.on<e.size)(u:∀w d,i w->i (w.at d))(v:∀r,BY e (λh=>decide (e.size<=h)) r->HG P g l i f n O (G (b.at a (.inRegion e r::k)) j) w):HG P g l i f (n+1) O (G (b.at a (.code (.region c e true)::k)) j) w:=by
 refine HG.step X λm p=>?_
 rw[stepG_region_draw];refine⟨⟨X,X,X,aa _,λ_ _ _=>rfl,λo q=>by simp at q⟩,?_⟩
 have x:BY e (λh=>decide (e.size<=h)) (Region.schedule (P.follows .mixedOrders) e (m.tape m.drawn (.order b.fn c))):=by
  simp only[Region.schedule,s,Bool.true_or,ek];have:=T8 e t e.size (m.tape m.drawn (.order b.fn c)) (Array.replicate e.size false) oi (by simp[SX])
  have o:(λh=>(Array.replicate e.size false).getD h true)=λh=>decide (e.size<=h):=by
   funext h
   by_cases q:h<e.size
   ·simp_all
   grind
  rw[o]at this;exact this
 have h:nY O m { m with drawn:=m.drawn+1 }=O:=kg (w:=m) O;rw[h];exact(v _ x).rely ⟨λb h=>p.qH b h,λo=>u m (m.drawn+1) (p.lv o),p.size⟩
end
section
variable {P:Program}{b:World->Prop}{a:(Nat->Prop)->Goroutine->World->Prop}{O:Nat->Prop}{n:Nat}{g:Goroutine}{w:World}
theorem PL{b:Event}(a:BS dU O c b):OU O c b:=by
 have⟨d,wr,e⟩:=b;unfold BS at a;unfold OU;cases d with
 |cell f=>
  have⟨_,d,b⟩:=a;rcases b with b|⟨b,_⟩
  ·exact⟨d,b⟩
  ·exact b.elim
 |obj g=>
  have⟨_,_,d,b⟩:=a;exact⟨d,b.elim id λa=>a.elim⟩
 |mark h=>exact a
 |output=>exact a
 |goroutines=>exact a
theorem UN(f:∀w d,b w->b (w.at d))(c:HG P true dU b a n O g w):Wk P a O g w:=by
 induction n generalizing O g w with
 |zero=>exact Wk.stop λd=>c _ (dW.at w d (f w d))
 |succ n i=>
  rcases c with c|⟨j,c⟩
  ·exact Wk.stop λd=>c _ (dW.at w d (f w d))
  ·refine Wk.mk j λd=>?_
   have:=c _ (dW.at w d (f w d));cases h:stepG P true g (w.at d)with
   |go k l m=>
    rw[h]at this;have⟨e,o⟩:=this;exact⟨k,l,m,_,X,⟨e.tape,e.os,e.out,e.size,e.other,λc=>I,λc f=>f,λj p=>PL (e.ev j p)⟩,i o⟩
   |_=>rw[h]at this;exact this.elim
