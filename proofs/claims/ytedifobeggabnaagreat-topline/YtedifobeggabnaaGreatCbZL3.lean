/- Texts of ours, one behind the other: ZL3. -/
import Derived.Test.YtedifobeggabnaaGreatCbZL0
import Derived.Test.YtedifobeggabnaaGreatCbZI5
namespace Go.Proofs.YtedifobeggabnaaGreat
section
variable {P:Program}{F F':Fx}
theorem TOd.lift(h:∀g,F.fn g→F'.fn g){x:Operand}(hx:TOd F x):TOd F' x:=by
 cases x with
 | func g=>exact h g hx
 | _=>exact hx
theorem TOp.lift(h:∀g,F.fn g→F'.fn g){o:Op}(ho:TOp P F o):TOp P F' o:=by
 cases o with
 |move x|assign x|box _ x|load _ x|nilCheck x|extract x _=>exact TOd.lift h ho
 | fieldAddr t x _=>exact⟨ho.1,TOd.lift h ho.2⟩
 | pick c a b=>exact⟨ho.1.lift h,ho.2.1.lift h,ho.2.2.lift h⟩
 | alloc t=>exact ho
 | build t parts=>exact⟨ho.1,fun p hp=>(ho.2 p hp).lift h⟩
 | buildSlice t _ parts=>exact⟨ho.1,fun p hp=>(ho.2 p hp).lift h⟩
 | store _ a x=>exact⟨ho.1.lift h,ho.2.lift h⟩
 | binOp op t x y _=>exact⟨ho.1.lift h,ho.2.1.lift h,ho.2.2⟩
 | unOp op _ x=>exact⟨ho.1,ho.2.lift h⟩
 | makeFunc fn first captured=>
  obtain⟨⟨g,e,hg⟩,h2,h3⟩:=ho
  exact⟨⟨g,e,h g hg⟩,h2,fun x hx=>(h3 x hx).lift h⟩
 | makeSlice t l c=>exact⟨ho.1,ho.2.1.lift h,ho.2.2.lift h⟩
 | slice _ x lo hi mx=>exact⟨ho.1.lift h,fun y e=>(ho.2.1 y e).lift h,fun y e=>(ho.2.2.1 y e).lift h,fun y e=>(ho.2.2.2 y e).lift h⟩
 | indexAddr _ x i=>exact⟨ho.1.lift h,ho.2.lift h⟩
 | call c=>
  refine⟨fun x hx=>(ho.1 x hx).lift h,?_⟩
  rcases ho.2 with⟨x,e,hx⟩|h2
  ·exact Or.inl ⟨x,e,hx.lift h⟩
  ·exact Or.inr h2
 | _=>exact ho.elim
theorem COk.lift(h:∀g,F.fn g→F'.fn g){c:Code}:COk P F c→COk P F' c:=by
 induction c with
 |skip|exit _|ret=>intro _;trivial
 | region id ops d=>intro hc o ho;exact TOp.lift h (hc o ho)
 | seq a b iha ihb=>intro hc;exact⟨iha hc.1,ihb hc.2⟩
 | cond c a b iha ihb=>intro hc;exact⟨hc.1.lift h,iha hc.2.1,ihb hc.2.2⟩
 | block id c ih=>intro hc;exact ih hc
 | loop c ih=>intro hc;exact ih hc
 | _=>intro hc;exact hc.elim
theorem Fns.lift(hP:Fns P F)(h:∀g,F.fn g↔F'.fn g):Fns P F':=
 ⟨fun g hg=>hP.enter g ((h g).2 hg),fun g fn c hg h1 h2=>(hP.body g fn c ((h g).2 hg) h1 h2).lift fun g hg=>(h g).1 hg,fun g hg=>hP.init g ((h g).2 hg)⟩
end
def wtN:TypeId:=1000000
theorem wtN_no:Tryz.prog.info? wtN=none:=by kernel_rfl
def wnK(l:List (Nat×Nat×Nat))(b:Nat):Option (Nat×Nat):=(l.find? fun p=>p.1 == b).map (·.2)
def fxT(l:List (Nat×Nat×Nat)):Fx:=fxK (fun g=>memB tpL g=true) wtN (wnK l)
theorem fxT_fns(l:List (Nat×Nat×Nat)):Fns Tryz.prog (fxT l):=tp_fns.lift fun _=>Iff.rfl
theorem wnK_mem {l:List (Nat×Nat×Nat)}{b lo hi:Nat}(h:wnK l b=some (lo,hi)):(b,lo,hi)∈l:=by
 unfold wnK at h
 obtain⟨p,h1,h2⟩:=Option.map_eq_some_iff.1 h
 have h3:=List.find?_some h1
 obtain⟨a,q⟩:=p
 have h3:a=b:=by simpa using h3
 have h2:q=(lo,hi):=h2
 subst h3 h2
 exact List.mem_of_find?_eq_some h1
theorem wnK_some {l:List (Nat×Nat×Nat)}{b lo hi:Nat}(h:(b,lo,hi)∈l)(hu:∀p,p∈l→p.1=b→p.2=(lo,hi)):wnK l b=some (lo,hi):=by
 unfold wnK
 cases e:l.find? fun p=>p.1 == b with
 | none=>
  have:=List.find?_eq_none.1 e _ h
  simp at this
 | some p=>
  have h3:=List.find?_some e
  rw[Option.map_some,hu p (List.mem_of_find?_eq_some e) (by simpa using h3)]
theorem wnK_isSome {l:List (Nat×Nat×Nat)}{b:Nat}:(wnK l b).isSome=true↔∃lo hi,(b,lo,hi)∈l:=by
 refine⟨fun h=>?_,fun⟨lo,hi,h⟩=>?_⟩
 ·obtain⟨⟨lo,hi⟩,e⟩:=Option.isSome_iff_exists.1 h
  exact⟨lo,hi,wnK_mem e⟩
 ·unfold wnK
  rw[Option.isSome_map,List.find?_isSome]
  exact⟨_,h,by simp⟩
def obL(v:Value)(n:Nat):List (Nat×Nat×Nat):=match v.ownBlock with
 | some g=>[(g,0,n)]
 | none=>[]
section
variable {W W':World}{base:Nat}{t:TypeId}{size n:Nat}{v:Value}{xs:List Value}
theorem own_win(h:W.ownsRow base t size v n xs){g lo hi:Nat}(hm:(g,lo,hi)∈obL v (n*size)):base≤g∧lo=0∧hi=n*size∧∃cur,W.heap[g]?=some (.cells cur t)∧hi≤cur.size∧∀i,i<hi→cur.getD i undef∈xs:=by
 obtain⟨hl,⟨rfl,rfl⟩|⟨g',cap,cur,rfl,hg,hh,hn,hc,hz,hx⟩⟩:=h
 ·simp[obL,Value.ownBlock]at hm
 ·simp only[obL,Value.ownBlock,List.mem_singleton,Prod.mk.injEq]at hm
  obtain⟨rfl,rfl,rfl⟩:=hm
  have h1:n*size≤cap*size:=Nat.mul_le_mul_right _ hn
  refine⟨hg,rfl,rfl,cur,hh,by omega,fun i hi=>?_⟩
  rw[←hx]
  have h2:i<cur.size:=by omega
  have h3:cur.getD i undef=cur.toList[i]'(by simpa using h2):=by simp[h2]
  rw[h3]
  exact List.mem_iff_getElem?.2 ⟨i,by rw[List.getElem?_take,if_pos hi];exact List.getElem?_eq_getElem _⟩
theorem own_cong(h:W.ownsRow base t size v n xs)(hc:∀g c t,base≤g→W.heap[g]?=some (.cells c t)→W'.heap[g]?=some (.cells c t)):W'.ownsRow base t size v n xs:=by
 obtain⟨hl,h|⟨g',cap,cur,rfl,hg,hh,h1⟩⟩:=h
 ·exact⟨hl,Or.inl h⟩
 ·exact⟨hl,Or.inr ⟨g',cap,cur,rfl,hg,hc _ _ _ hg hh,h1⟩⟩
theorem own_obL(h:W.ownsRow base t size v n xs)(hn:0<n):∃g cap,v = .slice (some ⟨g,0,none⟩) n cap∧base≤g∧n≤cap∧cap≤maxLen∧(∀m,obL v m=[(g,0,m)])∧∀i,i<n*size→W.cell? ⟨g,i,none⟩=xs[i]?:=by
 obtain⟨hl,⟨rfl,rfl⟩|⟨g',cap,cur,rfl,hg,hh,h1,h2,h3,hx⟩⟩:=h
 ·omega
 ·refine⟨g',cap,rfl,hg,h1,h2,fun m=>rfl,fun i hi=>?_⟩
  rw[←hx,List.getElem?_take,if_pos hi]
  simp[World.cell?,hh]
end
end Go.Proofs.YtedifobeggabnaaGreat
