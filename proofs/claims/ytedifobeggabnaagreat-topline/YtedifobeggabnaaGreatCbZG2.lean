/- Texts of ours, one behind the other: ZG2. -/
import Derived.Test.YtedifobeggabnaaGreatCbZB2
import Derived.Test.YtedifobeggabnaaGreatCbZB10
namespace Go.Proofs.YtedifobeggabnaaGreat
def nobB:Value→Bool
 |.bool _ | .int _ _ | .nilFunc=>true
 | .pointer none=>true
 | .slice none _ _=>true
 | .agg ⟨l⟩=>l.all fun v=>match v with
  |.bool _ | .int _ _ | .nilFunc=>true
  | .pointer none=>true
  | .slice none _ _=>true
  | _=>false
 | _=>false
theorem nobB_ok {v:Value}(h:nobB v=true):NoB v:=by
 unfold NoB
 unfold nobB at h
 split at h
 any_goals (first|(cases h;done)|(simp[VOk];done))
 rename_i l
 rw[VOk]
 intro v hv
 have:=(List.all_eq_true.1 h) v (by simpa using hv)
 split at this<;>first|(cases this;done)|simp[VOk]
def fxB(F:Nat→Bool):Fx:=⟨fun g=>F g=true,fun _=>0,fun _=>False,0⟩
def odB(F:Nat→Bool):Operand→Bool
 | .tmp _=>true
 | .const v=>nobB v
 | .func g=>F g
 | .global _=>false
section
variable {P:Program}{F:Nat→Bool}
theorem odB_ok {x:Operand}(h:odB F x=true):TOd (fxB F) x:=by
 cases x with
 | tmp t=>trivial
 | const v=>exact nobB_ok h
 | func g=>exact h
 | global g=>cases h
def bzB(P:Program)(t:TypeId):Bool:=match P.info? t with
 | some i=>match i.zero with
  | some v=>nobB v
  | none=>true
 | none=>true
theorem bzB_ok {t:TypeId}(h:bzB P t=true):BZ P t:=by
 intro i v h1 h2
 unfold bzB at h
 rw[h1]at h
 dsimp only at h
 rw[h2]at h
 exact nobB_ok h
def tzB(P:Program)(t:TypeId):Bool:=match P.underlying t with
 |some (.slice e)=>bzB P e
 | _=>true
theorem tzB_ok {t:TypeId}(h:tzB P t=true):TZs P t:=by
 intro e he
 unfold tzB at h
 rw[he]at h
 exact bzB_ok h
def sumB:BinOp→Bool
 |.eql | .neq | .shl | .shr=>false
 | _=>true
theorem sumB_ok {op:BinOp}(h:sumB op=true):Sum op:=by
 cases op<;>simp[sumB,Sum]at h ⊢
def intB(P:Program)(t:TypeId):Bool:=(match P.underlying t with
 | some (.int _)=>true
 | _=>false) && match P.info? t with
   | some i=>match i.desc with
     | .named n _ => !(n == "sync.copyChecker")
     | _=>true
   | none=>true
theorem intB_ok {t:TypeId}(h:intB P t=true):IntT P t:=by
 unfold intB at h
 rw[Bool.and_eq_true]at h
 refine⟨?_,fun i u hi hu=>?_⟩
 ·have h1:=h.1
  split at h1
  ·rename_i k hk
   exact⟨k,hk⟩
  ·cases h1
 ·have h2:=h.2
  rw[hi]at h2
  dsimp only at h2
  rw[hu]at h2
  simp at h2
def binB(P:Program)(op:BinOp)(t:TypeId)(y:Operand):Bool:=
 sumB op || ((match op with | .eql | .neq=>true|_=>false) && !P.eqGuardType P.depth t && (intB P t || (match P.underlying t,y with
  |some (.slice _),.const (.slice none _ _)=>true
  |some (.pointer _),.const (.pointer none)=>true
  | _,_=>false)))
theorem binB_ok {op:BinOp}{t:TypeId}{y:Operand}(h:binB P op t y=true):TBin P op t y:=by
 unfold binB at h
 rw[Bool.or_eq_true]at h
 rcases h with h|h
 ·exact Or.inl (sumB_ok h)
 ·simp only[Bool.and_eq_true,Bool.not_eq_true',Bool.or_eq_true]at h
  obtain⟨⟨h1,h2⟩,h3⟩:=h
  have ho:op = .eql∨op = .neq:=by cases op<;>simp at h1 ⊢
  refine Or.inr ⟨ho,h2,?_⟩
  rcases h3 with h3|h3
  ·exact Or.inl (intB_ok h3)
  ·refine Or.inr ?_
   split at h3
   ·rename_i e n c he
    exact Or.inl ⟨e,he,n,c,rfl⟩
   ·rename_i e he
    exact Or.inr ⟨e,he,rfl⟩
   ·cases h3
def frB(P:Program)(t:TypeId):Bool:=match P.underlying t with
 |some (.struct fs)=>fs.toList.all fun d=>match P.info? d.type with
  | some i => !(i.size == 0)
  | none=>true
 | _=>true
theorem frB_ok {t:TypeId}(h:frB P t=true):FRs P t:=by
 intro fs hf d hd i hi
 unfold frB at h
 rw[hf]at h
 have:=(List.all_eq_true.1 h) d (by simpa using hd)
 rw[hi]at this
 simpa using this
def opB(P:Program)(F:Nat→Bool):Op→Bool
 |.move x | .assign x | .box _ x | .load _ x | .nilCheck x | .extract x _=>odB F x
 | .fieldAddr t x _=>frB P t && odB F x
 | .pick c a b=>odB F c && odB F a && odB F b
 | .alloc t=>bzB P t
 | .build t parts=>bzB P t && parts.toList.all fun p=>odB F p.2
 | .buildSlice t _ parts=>tzB P t && parts.toList.all fun p=>odB F p.2
 | .store _ a x=>odB F a && odB F x
 | .binOp op t x y _=>odB F x && odB F y && binB P op t y
 | .unOp op _ x=>(match op with | .not | .neg=>true|_=>false) && odB F x
 |.makeFunc (.func g) ⟨[]⟩ captured=>F g && captured.toList.all (odB F)
 | .makeSlice t l c=>tzB P t && odB F l && odB F c
 | .slice _ x lo hi mx=>odB F x && lo.all (odB F) && hi.all (odB F) && mx.all (odB F)
 | .indexAddr _ x i=>odB F x && odB F i
 | .call c=>c.args.toList.all (odB F) && match c.callee with
  | .value x=>odB F x
  |.builtin .len | .builtin .max | .builtin .copy=>true
  | .builtin .append=>match c.argTypes[0]? with
   | some ty=>tzB P ty
   | none=>true
  | _=>false
 | _=>false
theorem allB_ok {xs:Array Operand}(h:xs.toList.all (odB F)=true):∀x,x∈xs→TOd (fxB F) x:=fun x hx=>odB_ok ((List.all_eq_true.1 h) x (by simpa using hx))
theorem optB_ok {o:Option Operand}(h:o.all (odB F)=true):∀y,o=some y→TOd (fxB F) y:=fun y hy=>by
 subst hy
 exact odB_ok (by simpa using h)
theorem partsB_ok {ps:Array (Nat×Operand)}(h:(ps.toList.all fun p=>odB F p.2)=true):∀p,p∈ps→TOd (fxB F) p.2:=fun p hp=>odB_ok ((List.all_eq_true.1 h) p (by simpa using hp))
theorem opB_ok {o:Op}(h:opB P F o=true):TOp P (fxB F) o:=by
 unfold opB at h
 split at h
 all_goals try simp only[Bool.and_eq_true]at h
 any_goals exact odB_ok h
 ·exact⟨frB_ok h.1,odB_ok h.2⟩
 ·exact⟨odB_ok h.1.1,odB_ok h.1.2,odB_ok h.2⟩
 ·exact bzB_ok h
 ·exact⟨bzB_ok h.1,partsB_ok h.2⟩
 ·exact⟨tzB_ok h.1,partsB_ok h.2⟩
 ·exact⟨odB_ok h.1,odB_ok h.2⟩
 ·exact⟨odB_ok h.1.1,odB_ok h.1.2,binB_ok h.2⟩
 ·rename_i op _ _
  refine⟨?_,odB_ok h.2⟩
  have:=h.1
  cases op<;>simp at this ⊢
 ·exact⟨⟨_,rfl,h.1⟩,rfl,allB_ok h.2⟩
 ·exact⟨tzB_ok h.1.1,odB_ok h.1.2,odB_ok h.2⟩
 ·exact⟨odB_ok h.1.1.1,optB_ok h.1.1.2,optB_ok h.1.2,optB_ok h.2⟩
 ·exact⟨odB_ok h.1,odB_ok h.2⟩
 ·rename_i c
  refine⟨allB_ok h.1,?_⟩
  have h2:=h.2
  split at h2
  ·rename_i x hx
   exact Or.inl ⟨x,hx,odB_ok h2⟩
  ·rename_i hx
   exact Or.inr (Or.inl hx)
  ·rename_i hx
   exact Or.inr (Or.inr (Or.inl hx))
  ·rename_i hx
   exact Or.inr (Or.inr (Or.inr (Or.inl hx)))
  ·rename_i hx
   refine Or.inr (Or.inr (Or.inr (Or.inr ⟨hx,fun ty hty=>?_⟩)))
   rw[hty]at h2
   exact tzB_ok h2
  ·cases h2
 ·cases h
def codB(P:Program)(F:Nat→Bool):Code→Bool
 |.skip | .exit _ | .ret=>true
 | .region _ ops _=>ops.toList.all fun o=>opB P F o.op
 | .seq a b=>codB P F a && codB P F b
 | .cond c a b=>odB F c && codB P F a && codB P F b
 |.block _ c | .loop c=>codB P F c
 | _=>false
theorem codB_ok:∀ {c:Code},codB P F c=true→COk P (fxB F) c:=by
 intro c
 induction c with
 |skip|exit _|ret=>intro _;trivial
 | region id ops d=>intro h o ho;exact opB_ok ((List.all_eq_true.1 h) o (by simpa using ho))
 | seq a b iha ihb=>intro h;rw[codB,Bool.and_eq_true]at h;exact⟨iha h.1,ihb h.2⟩
 | cond c a b iha ihb=>intro h;rw[codB,Bool.and_eq_true,Bool.and_eq_true]at h;exact⟨odB_ok h.1.1,iha h.1.2,ihb h.2⟩
 | block id c ih=>intro h;exact ih h
 | loop c ih=>intro h;exact ih h
 | _=>intro h;cases h
def fnB(P:Program)(F:Nat→Bool)(g:Nat):Bool:=match P.funcs[g]? with
 | some fn => !(fn.name == "runtime.NumGoroutine") && (P.inits.idxOf? g).isNone && match fn.body with
   | some c=>codB P F c
   | none=>false
 | none=>false
def memB(l:List Nat)(g:Nat):Bool:=l.any fun x=>Nat.beq x g
def fxL(l:List Nat):Fx:=fxB (memB l)
theorem fns_ok(l:List Nat)(h:∀g,g∈l→fnB P (memB l) g=true):Fns P (fxL l):=by
 have key:∀g,memB l g=true→fnB P (memB l) g=true:=fun g hg=>by
  obtain⟨x,hx,he⟩:=List.any_eq_true.1 hg
  have e:x=g:=Nat.eq_of_beq_eq_true he
  exact h g (e▸hx)
 refine⟨fun g hg=>?_,fun g fn c hg hf hb=>?_,fun g hg=>?_⟩
 ·have:=key g hg
  unfold fnB at this
  cases hf:P.funcs[g]? with
  | none=>rw[hf]at this;cases this
  | some fn=>
   rw[hf]at this
   simp only[Bool.and_eq_true,Bool.not_eq_true']at this
   refine⟨fn,rfl,?_,this.1.1⟩
   cases hb:fn.body with
   | none=>rw[hb]at this;cases this.2
   | some c=>rfl
 ·have:=key g hg
  unfold fnB at this
  rw[hf]at this
  dsimp only at this
  rw[hb]at this
  simp only[Bool.and_eq_true]at this
  exact codB_ok this.2
 ·have:=key g hg
  unfold fnB at this
  cases hf:P.funcs[g]? with
  | none=>rw[hf]at this;cases this
  | some fn=>
   rw[hf]at this
   simp only[Bool.and_eq_true]at this
   simpa using this.1.2
end
end Go.Proofs.YtedifobeggabnaaGreat
