/- Texts of ours, one behind the other: ZL2. -/
import Derived.Test.YtedifobeggabnaaGreatCbZI0
namespace Go.Proofs.YtedifobeggabnaaGreat
open Tryz
open Go.RowKit Go.Sort
set_option maxHeartbeats 4000000 in
set_option maxRecDepth 100000 in
theorem Dh{q:Option Addr}{o r:Nat}{v:Nat->Int}{w:World}(h:Arg q o r v w)(J:o<=1000)(b c:Nat)(O:1<=b)(P:b<=100000)(u:c<=b):Calls prog 18 #[.slice q o r,.int .i64 b,.int .i64 c] w λi m=>∃d g,i=.returned (.slice (some ⟨d,0,none⟩) c b)∧w.heap.size<=d∧eh d b g m∧mn b g∧Below w.heap.size w m:=by
 have K:Hid (Arg q o r v w):=h;clear h;go_enter func18,ntmps18;go_wp2_with (at_make;refine iS X _ _ X _ b X X E E ?_;intro s x D);have v:Hid (eh w.heap.size b db s∧Below w.heap.size w s):=⟨rj x,cH D (aa _) (λc u=>by simp at u)⟩;clear x D;have⟨d,x⟩:=eaa (w.heap.size);rw[<-x]at v ⊢;have t:w.heap.size<=d:=E
 have y:Hid (eh d b db s∧Below w.heap.size w s):=by
  have h:=v.out;exact⟨h.1,by rw[<-x];exact h.2⟩
 clear v x;go_wp2_with fail;go_loopw [8] (λl wr=>∃e:Nat,e<=b∧l=.int .i64 e∧Hid (eh d b (λc=>if c<e then c else 0) wr∧Below w.heap.size w wr)) (λl _=>b-(intOf l).toNat)
 case atStart=>exact⟨0,E,X,y.out.1.congr (λc _=>XF),y.out.2⟩
 case round=>
  clear y;obtain⟨e,Q,rfl,f⟩:=hrel;by_cases z:e<b
  ·have A:(e:Int)<(b:Int):=by omega
   have s:=f.out.1.free e;have s:=f.out.1.cell e z
   have n:Hid (eh d b (λc=>if c<e+1 then c else 0) (wr.setCell ⟨d,e,none⟩ (.int .i64 (e:Nat)))∧Below w.heap.size w (wr.setCell ⟨d,e,none⟩ (.int .i64 (e:Nat)))):=by
    refine⟨f.out.1.store e e (λj _=>?_),f.out.2.setCell t _⟩;by_cases i:j=e
    ·rw[ai i,ai E,i]
    ·rw[af i];by_cases s:j<e
     ·rw[ai s,ai E]
     ·rw[af s,af E]
   go_wp2;go_roundw
   case rel=>exact⟨e+1,E,x9,n.out⟩
   case measure=>simp[intOf];omega
  ·have A:¬(e:Int)<(b:Int):=by omega
   have F:Hid (eh d b (λc=>c) wr∧Below w.heap.size w wr∧mn b (λc=>c)):=⟨f.out.1.congr (λc u=>by rw[ai E]),f.out.2,λj s=>s,λl j v _=>Nat.ne_of_lt v⟩;clear f z;go_wp2_with fail;go_loopw [9] (λl G=>∃(e:Nat) (g:Nat->Nat),e<=c∧l=.int .i64 e∧Hid (eh d b g G∧Below w.heap.size w G∧mn b g)) (λl _=>c-(intOf l).toNat)
   case atStart=>exact⟨0,_,E,X,F.out⟩
   case round=>
    clear F;obtain⟨a,g,R,rfl,f⟩:=hrel;by_cases z:a<c
    ·have A:(a:Int)<(c:Int):=by omega
     have n:Hid (Calls prog 17 #[.slice q o r,.int .i64 a] wr λi m=>(∃k,i=.returned (.int .i64 k)∧oI k)∧∃c,m=wr.drewN c):=Ba (K.out.below f.out.2.1) J a E;go_wp2_with fail;refine n.out.mono ?_;rintro i p ⟨⟨k,rfl,B⟩,S,I⟩;have l:Hid (eh d b g p∧Below w.heap.size w p∧mn b g):=by rw[I];exact⟨f.out.1.drewN _,aO f.out.2.1 _,f.out.2.2⟩
     clear I n f
     obtain⟨e,o,r⟩:∃e:Nat,pick k ((b:Int)-(a:Int))=(e:Int)∧a+e<b:=by
      have q:=qe k ((b:Int)-(a:Int)) E;have q:=p9 k ((b:Int)-(a:Int)) E;exact⟨(pick k ((b:Int)-(a:Int))).toNat,E,E⟩
     have M:Hid (∀w:World,Calls prog 15 #[.int .i64 k,.int .i64 ((b:Int)-(a:Int))] w λi m=>i=.returned (.int .i64 e)∧m=w):=λw=>by rw[<-o];exact iT k _ w B.1 B.2 E E
     clear o B;have q:=l.out.1.cell a E;have v:=l.out.1.cell (a+e) r;have k:=l.out.1.free a;have⟨o,s⟩:=eaa (g a);have⟨k,u⟩:=eaa (g (a+e));rw[<-s]at q;rw[<-u]at v;have N:(a:Int)+(e:Int)<(b:Int):=E;have q:(a:Int)<(b:Int):=E;have q:(0:Int)<=(a:Int)+(e:Int):=E;have q:((a:Int)+(e:Int)).toNat=a+e:=E;have q:eh d b (λj=>if j=a then k else g j) (p.setCell ⟨d,a,none⟩ (.int .i64 (k:Nat))):=l.out.1.store a k (λj _=>rfl);have v:=q.free (a+e);have y:=q.cell (a+e) r;obtain⟨v,x⟩:∃v,v=(if a+e=a then k else g (a+e)):=⟨_,X⟩;rw[<-x]at y
     have n:Hid (eh d b (swp g a (a+e)) ((p.setCell ⟨d,a,none⟩ (.int .i64 (k:Nat))).setCell ⟨d,a+e,none⟩ (.int .i64 (o:Nat)))∧Below w.heap.size w ((p.setCell ⟨d,a,none⟩ (.int .i64 (k:Nat))).setCell ⟨d,a+e,none⟩ (.int .i64 (o:Nat)))∧mn b (swp g a (a+e))):=by
      refine⟨q.store (a+e) o (λj _=>by unfold swp;rw[s,u]),(l.out.2.1.setCell t _).setCell t _,Ow l.out.2.2 E r⟩
     clear s u q x;go_wp2_with (go_at_call 15;refine(M.out _).mono ?_;rintro i m ⟨rfl,C⟩;have C:=C.symm;subst C);go_roundw
     case rel=>exact⟨a+1,_,E,x9,n.out⟩
     case measure=>simp[intOf];omega
    ·have A:¬(a:Int)<(c:Int):=by omega
     have N:(c:Int)<=(b:Int):=E;go_wp2;go_ret;exact⟨d,X,t,g,f.out.1,f.out.2.2,f.out.2.1⟩
