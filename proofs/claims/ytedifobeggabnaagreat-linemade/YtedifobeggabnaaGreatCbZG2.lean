/- Texts of ours, one behind the other: ZG2. -/
import Derived.Test.YtedifobeggabnaaGreatCbZB1
namespace Go.Proofs.YtedifobeggabnaaGreat
variable {b:TypeId}{e:BinOp}
def QB:Value->Bool
 |.bool _ |.int _ _ |.nilFunc=>true
 |.pointer none=>true
 |.slice none _ _=>true
 |.agg ⟨l⟩=>l.all λa=>match a with
  |.bool _ |.int _ _ |.nilFunc=>true
  |.pointer none=>true
  |.slice none _ _=>true
  |_=>false
 |_=>false
theorem Hl{a:Value}(b:QB a=true):uY a:=by
 unfold uY;unfold QB at b;split at b
 any_goals (first|(cases b;done)|(simp[bG];done))
 rename_i d;rw[bG];intro a c;have:=(aM.1 b) a (by simpa using c);split at this<;>first|(cases this;done)|simp[bG]
def RV(a:Nat->Bool):Fx:=⟨λb=>a b=true,λ_=>0,λ_=>False,0⟩
def sT(a:Nat->Bool):Operand->Bool
 |.tmp _=>true
 |.const v=>QB v
 |.func g=>a g
 |.global _=>false
section
variable {P:Program}{F:Nat->Bool}
theorem gE{a:Operand}(b:sT F a=true):mP (RV F) a:=by
 cases a with
 |tmp d=>trivial
 |const e=>exact Hl b
 |func c=>exact b
 |global c=>cases b
def UF(P:Program)(a:TypeId):Bool:=match P.info? a with
 |some b=>match b.zero with
  |some c=>QB c
  |none=>true
 |none=>true
theorem EG(a:UF P b=true):BZ P b:=by
 intro e f c d;unfold UF at a;rw[c]at a
 dsimp only at a
 rw[d]at a;exact Hl a
def Vb(P:Program)(a:TypeId):Bool:=match P.underlying a with
 |some (.slice b)=>UF P b
 |_=>true
theorem Gj(a:Vb P b=true):Vs P b:=by
 intro d c;unfold Vb at a;rw[c]at a;exact EG a
def TY:BinOp->Bool
 |.eql|.neq|.shl|.shr=>false
 |_=>true
theorem Rg(a:TY e=true):Sum e:=by
 cases e<;>simp[TY,Sum]at a ⊢
def SU(P:Program)(a:TypeId):Bool:=(match P.underlying a with
 | some (.int _)=>true
 | _=>false) && match P.info? a with
   | some b=>match b.desc with
     | .named n _ => !(n == "sync.copyChecker")
     | _=>true
   | none=>true
theorem PW(a:SU P b=true):O7 P b:=by
 unfold SU at a;rw[aI]at a;refine⟨?_,λi j e f=>?_⟩
 ·have d:=a.1;split at d
  ·rename_i g h;exact⟨g,h⟩
  ·cases d
 ·have c:=a.2;rw[e]at c
  dsimp only at c
  rw[f]at c;simp at c
def SA(P:Program)(b:BinOp)(a:TypeId)(y:Operand):Bool:=
 TY b || ((match b with |.eql|.neq=>true|_=>false) && !P.eqGuardType P.depth a && (SU P a || (match P.underlying a,y with
  |some (.slice _),.const (.slice none _ _)=>true
  |some (.pointer _),.const (.pointer none)=>true
  |some .bool,_=>true
  |_,_=>false)))
theorem Pm{y:Operand}(a:SA P e b y=true):UC P e b y:=by
 unfold SA at a;rw[iB]at a;rcases a with a|a
 ·exact I (Rg a)
 ·simp only[aI,m7,iB]at a;obtain⟨⟨g,h⟩,c⟩:=a;have i:e=.eql∨e=.neq:=by cases e<;>simp at g ⊢
  refine J ⟨i,h,?_⟩;rcases c with c|c
  ·exact I (PW c)
  ·refine J ?_;split at c
   ·rename_i f j k d;exact I ⟨f,d,j,k,X⟩
   ·rename_i f d;exact J (I ⟨f,d,X⟩)
   ·rename_i d;exact J (J d)
   ·cases c
def VU(P:Program)(a:TypeId):Bool:=match P.underlying a with
 |some (.struct b)=>b.toList.all λd=>match P.info? d.type with
  |some c => !(c.size==0)
  |none=>true
 |_=>true
theorem SN(a:VU P b=true):VD P b:=by
 intro g c d e h f;unfold VU at a;rw[c]at a;have:=(aM.1 a) d (by simpa using e);rw[f]at this;simpa using this
def V6(P:Program)(F:Nat->Bool):Op->Bool
 |.move x|.assign x|.box _ x|.load _ x|.nilCheck x|.extract x _=>sT F x
 |.fieldAddr t x _=>VU P t && sT F x
 |.pick c a d=>sT F c && sT F a && sT F d
 |.alloc t=>UF P t
 |.build t parts=>UF P t && parts.toList.all λb=>sT F b.2
 |.buildSlice t _ parts=>Vb P t && parts.toList.all λb=>sT F b.2
 |.store _ a x=>sT F a && sT F x
 |.binOp op t x y _=>sT F x && sT F y && SA P op t y
 |.unOp op _ x=>(match op with |.not|.neg=>true|_=>false) && sT F x
 |.makeFunc (.func g) ⟨[]⟩ captured=>F g && captured.toList.all (sT F)
 |.makeSlice t e c=>Vb P t && sT F e && sT F c
 |.slice _ x f h i=>sT F x && f.all (sT F) && h.all (sT F) && i.all (sT F)
 |.indexAddr _ x j=>sT F x && sT F j
 |.call c=>c.args.toList.all (sT F) && match c.callee with
  |.value x=>sT F x
  |.builtin .len|.builtin .max|.builtin .copy=>true
  |.builtin .append=>match c.argTypes[0]? with
   |some k=>Vb P k
   |none=>true
  |_=>false
 |_=>false
theorem GC{b:Array Operand}(c:b.toList.all (sT F)=true):∀a,a∈b->mP (RV F) a:=λa d=>gE ((aM.1 c) a (by simpa using d))
theorem A4{a:Option Operand}(b:a.all (sT F)=true):∀y,a=some y->mP (RV F) y:=λy c=>by
 subst c;exact gE (by simpa using b)
theorem zw{b:Array (Nat×Operand)}(c:(b.toList.all λa=>sT F a.2)=true):∀a,a∈b->mP (RV F) a.2:=λa d=>gE ((aM.1 c) a (by simpa using d))
theorem Tz{d:Op}(a:V6 P F d=true):GA P (RV F) d:=by
 unfold V6 at a;split at a
 all_goals try simp only[aI]at a
 any_goals exact gE a
 ·exact⟨SN a.1,gE a.2⟩
 ·exact⟨gE a.1.1,gE a.1.2,gE a.2⟩
 ·exact EG a
 ·exact⟨EG a.1,zw a.2⟩
 ·exact⟨Gj a.1,zw a.2⟩
 ·exact⟨gE a.1,gE a.2⟩
 ·exact⟨gE a.1.1,gE a.1.2,Pm a.2⟩
 ·rename_i e _ _;refine⟨?_,gE a.2⟩;have:=a.1;cases e<;>simp at this ⊢
 ·exact⟨⟨_,X,a.1⟩,X,GC a.2⟩
 ·exact⟨Gj a.1.1,gE a.1.2,gE a.2⟩
 ·exact⟨gE a.1.1.1,A4 a.1.1.2,A4 a.1.2,A4 a.2⟩
 ·exact⟨gE a.1,gE a.2⟩
 ·rename_i h;refine⟨GC a.1,?_⟩;have c:=a.2;split at c
  ·rename_i f b;exact I ⟨f,b,gE c⟩
  ·rename_i b;exact J (I b)
  ·rename_i b;exact J (J (I b))
  ·rename_i b;exact J (J (J (I b)))
  ·rename_i b;refine J (J (J (J ⟨b,λi g=>?_⟩)));rw[g]at c;exact Gj c
  ·cases c
 ·cases a
def s7(P:Program)(F:Nat->Bool):Code->Bool
 |.skip|.exit _ |.ret=>true
 |.region _ d _=>d.toList.all λe=>V6 P F e.op
 |.seq a b=>s7 P F a && s7 P F b
 |.cond c a b=>sT F c && s7 P F a && s7 P F b
 |.block _ c|.loop c=>s7 P F c
 |_=>false
theorem GG:∀ {b:Code},s7 P F b=true->uT P (RV F) b:=by
 intro b;induction b with
 |skip|exit _|ret=>intro _;trivial
 |region id ops d=>intro a g h;exact Tz ((aM.1 a) g (by simpa using h))
 |seq i j c e=>intro a;rw[s7,aI]at a;exact⟨c a.1,e a.2⟩
 |cond b i j c e=>intro a;rw[s7,aI,aI]at a;exact⟨gE a.1.1,c a.1.2,e a.2⟩
 |block id b f=>intro a;exact f a
 |loop b f=>intro a;exact f a
 |_=>intro a;cases a
def RU(P:Program)(F:Nat->Bool)(a:Nat):Bool:=match P.funcs[a]? with
 | some b => !(b.name == "runtime.NumGoroutine") && (P.inits.idxOf? a).isNone && match b.body with
   | some c=>s7 P F c
   | none=>false
 | none=>false
def mB(a:List Nat)(b:Nat):Bool:=a.any λc=>Nat.beq c b
def Uq(a:List Nat):Fx:=RV (mB a)
theorem E6(d:List Nat)(h:∀a,a∈d->RU P (mB d) a=true):uG P (Uq d):=by
 have f:∀a,mB d a=true->RU P (mB d) a=true:=λa b=>by
  obtain⟨d,i,j⟩:=uV.1 b;have k:d=a:=Nat.eq_of_beq_eq_true j;exact h a (k▸i)
 refine⟨λa b=>?_,λa e l b c g=>?_,λa b=>?_⟩
 ·have:=f a b;unfold RU at this;cases c:P.funcs[a]? with
  |none=>rw[c]at this;cases this
  |some e=>
   rw[c]at this;simp only[aI,m7]at this;refine⟨e,X,?_,this.1.1⟩;cases g:e.body with
   |none=>rw[g]at this;cases this.2
   |some l=>rfl
 ·have:=f a b;unfold RU at this;rw[c]at this
  dsimp only at this
  rw[g]at this;simp only[aI]at this;exact GG this.2
 ·have:=f a b;unfold RU at this;cases c:P.funcs[a]? with
  |none=>rw[c]at this;cases this
  |some e=>
   rw[c]at this;simp only[aI]at this;simpa using this.1.2
