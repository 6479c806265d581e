/- For every input the statement LineMade holds: whatever it is given, on every schedule the call returns true, without a data race, and what was there reads as before. No condition. -/
import Derived.Test.YtedifobeggabnaaGreatRows
import Derived.Test.YtedifobeggabnaaGreatCbZO5
namespace Go.Proofs.YtedifobeggabnaaGreat
open Go.Proofs.Tryz
open Go.ChangeShapes Go.WideShapes Go.ChangeAt Go.RowKit
abbrev Yg:=@Go.trodAll_cons_mk
set_option linter.unusedVariables false

theorem jg{a:Int}(b:(Lit.int .i64 a).wf=true):oI a:=by
  simp [Lit.wf] at b;exact b

theorem AQ:ownKnob prog.godebug=none:=wq

set_option maxRecDepth 100000 in
theorem uM(e:Os)(y:e.Started)(H:Type)(b:TypeId×Value->H):ReturnsInLeavingWide {} checked e 4 .any (Rows.lineMadeSpec.pre6 b prog f4 Rows.lineMadeRow.domain false) (Rows.lineMadeSpec.post b prog f4 false true false false):=by
  refine returnsInLeavingWide_of_change_sized (C:=checked) AQ y func4
    (ChangeSpec.witness6 (enc:=b) (C:=checked) false ⟨#[],#[.slice none 0 0,.int .i64 0,.int .i64 0,.int .i64 0,.int .i64 0,.int .i64 0,.int .i64 0],[]⟩ 8 wq wq wq wq) ?_
  intro c y args ds gs before hval0 hW hcnd0 hsz0 hholds;have a:∀ (j:Nat) e d,f4.params[j]? =some e->args[j]? =some d->Value.okWide prog c .any y e d:=hval0;have f:(DataW.weightsEach prog (f4.params.toList ++ Rows.lineMadeSpec.plain.varTypes prog) (ds ++ gs)).all (·<=reachBytes)=true:=hsz0;have g:=hW;obtain ⟨z,ao,hA0,A,rfl,ar,av⟩:=hW;have h:DataW.TrodAll b prog c 0 (λ_ =>true) true f4.params.toList args.toList ds z:=hA0;rw [params4] at h a f;obtain ⟨i,ax,d0,a0,B,q0,a1,rfl,rfl,k,C⟩:=trodAll_cons h;obtain ⟨l,a2,d1,a3,p1,q1,rfl,rfl,rfl,D,E⟩:=trodAll_cons C;obtain ⟨m,a4,d2,a5,p2,q2,rfl,rfl,rfl,F,G⟩:=trodAll_cons E;obtain ⟨n,a6,d3,a7,p3,q3,rfl,rfl,rfl,I,J⟩:=trodAll_cons G;obtain ⟨o,a8,d4,a9,p4,q4,rfl,rfl,rfl,K,M⟩:=trodAll_cons J;obtain ⟨p,ba,d5,bb,p5,q5,rfl,rfl,rfl,N,O⟩:=trodAll_cons M;obtain ⟨q,bc,d6,bd,p6,q6,rfl,rfl,rfl,P,Q⟩:=trodAll_cons O;obtain ⟨rfl,rfl,rfl⟩:=trodAll_nil Q;obtain rfl:args= #[i,l,m,n,o,p,q]:=by cases args; simp_all
  obtain ⟨rfl,rfl⟩:=trodVars_none A;obtain ⟨R,rfl,rfl,rfl,r⟩:=open_int underlying3 (a 1 3 l X X) D;obtain ⟨S,rfl,rfl,rfl,s⟩:=open_int underlying3 (a 2 3 m X X) F;obtain ⟨T,rfl,rfl,rfl,t⟩:=open_int underlying3 (a 3 3 n X X) I;obtain ⟨U,rfl,rfl,rfl,u⟩:=open_int underlying3 (a 4 3 o X X) K;obtain ⟨V,rfl,rfl,rfl,v⟩:=open_int underlying3 (a 5 3 p X X) N;obtain ⟨W,rfl,rfl,rfl,w⟩:=open_int underlying3 (a 6 3 q X X) P;obtain ⟨Y,n0,c0,z0,rfl,x,Z⟩:=JW (a 0 22 i X X) k;have b:=FZ f (j:=0) X X Z
  have e:Ey Y c:=λh f =>by
    have :=a 0 22 _ X X;rw [f] at this;exact Nr this
  clear hA0 hval0 hsz0;have ab:∀ a∈B,a.block < c.heap.size:=λa f =>g.lt a (by simp [f])
  obtain ⟨a,c,f,h,i,l,m,n,o⟩:=AS x e (aK x.le b) R S T U V W (jg r) (jg s) (jg t) (jg u) (jg v) (jg w);refine ⟨a,c,f,h,i,l,m,n,o.mono λd hF => ?_⟩;obtain ⟨rfl,vR⟩:=hF;exact ⟨_,_,_,[],_,[],g,trodAll_mk1 (shut_bool underlying4 _),(Yg (Below.trod L5 wq (nk wq) k vR ab) (Yg (shut_int underlying3 r) (Yg (shut_int underlying3 s) (Yg (shut_int underlying3 t) (Yg (shut_int underlying3 u) (Yg (shut_int underlying3 v) (Yg (shut_int underlying3 w) trodAll_mk0))))))),rfl,vR.frame _,λad =>by cases ad⟩

theorem yC:Rows.lineMadeRow.holds Tryz.pinned (OpenSpec.ofChange Rows.lineMadeSpec):=
  OpenClaim.holds_of_wide_leaving 4 f4 X X X X X X X ⟨X,rfl,rfl,rfl,rfl⟩ X X X X X wq func4 wq
    (nk wq) (by unfold Func.isWrapper; first |(rw [ai x6]; kernel_rfl) |(rw [af x6]; exact ⟨rfl,rfl⟩))
    (λa b H c _ =>uM a b H c)

theorem lineMade_holds:Rows.LineMadeSaid:=yC
#print axioms lineMade_holds
