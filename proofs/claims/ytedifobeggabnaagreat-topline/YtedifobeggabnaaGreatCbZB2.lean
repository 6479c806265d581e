/- Texts of ours, one behind the other: ZB2 ZB3 ZB4 ZB5 ZB6 ZB7 ZB8 ZB9. -/
import Derived.Test.YtedifobeggabnaaGreatCbZA5
import Derived.Conc.Own
namespace Go.Proofs.YtedifobeggabnaaGreat
section
section
variable {P:Program}{S:Nat→Prop}{F:Fx}{f:Nat→Nat}
theorem map_od {ev ev':Operand→Value}{xs:Array Operand}(h:∀x,x∈xs→TOd F x)(hev:∀x,TOd F x→VOk S F (ev x)∧ev' x=rnV f (ev x)):xs.map ev'=(xs.map ev).map (rnV f)∧∀v,v∈xs.map ev→VOk S F v:=by
 refine⟨?_,fun v hv=>?_⟩
 ·rw[Array.map_map]
  exact Array.map_congr_left fun x hx=>(hev x (h x hx)).2
 ·obtain⟨x,hx,rfl⟩:=Array.mem_map.1 hv
  exact(hev x (h x hx)).1
theorem map_parts {ev ev':Operand→Value}{ps:Array (Nat×Operand)}(h:∀p, p∈ps→TOd F p.2)(hev:∀x, TOd F x→VOk S F (ev x)∧ev' x=rnV f (ev x)) :
  (ps.map fun p=>(p.1,ev' p.2))=(ps.map fun p=>(p.1,ev p.2)).map (fun p=>(p.1,rnV f p.2))∧∀p,p∈(ps.map fun p=>(p.1,ev p.2))→VOk S F p.2:=by
 refine⟨?_,fun v hv=>?_⟩
 ·rw[Array.map_map]
  refine Array.map_congr_left fun x hx=>?_
  show(x.1,ev' x.2)=(x.1,rnV f (ev x.2))
  rw[(hev x.2 (h x hx)).2]
 ·obtain⟨x,hx,rfl⟩:=Array.mem_map.1 hv
  exact(hev x.2 (h x hx)).1
theorem map_opt {ev ev':Operand→Value}{o:Option Operand}(h:∀y,o=some y→TOd F y)(hev:∀x,TOd F x→VOk S F (ev x)∧ev' x=rnV f (ev x)):o.map ev'=(o.map ev).map (rnV f)∧∀v,o.map ev=some v→VOk S F v:=by
 cases o with
 | none=>exact⟨rfl,fun v e=>by cases e⟩
 | some x=>exact⟨by simp[(hev x (h x rfl)).2],fun v e=>by cases e;exact(hev x (h x rfl)).1⟩
theorem sr_callV(hF:TFn P F){v:Value}(hv:VOk S F v){args:Array Value}(ha:∀x, x∈args→VOk S F x) :
  SR P S F f (NR S F f) (do let d ←Deferred.ofValue v args;invoke d.target d.args) (do let d ←Deferred.ofValue (rnV f v) (args.map (rnV f));invoke d.target d.args):=by
 cases v with
 | func fn first captured=>
  rw[VOk]at hv
  obtain⟨⟨g,rfl,hg⟩,rfl,hc⟩:=hv
  rw[rnV]
  have h1:=sr_callFunc (f:=f) hF hg (args := #[]++args++captured) (fun x hx=>by
   rcases Array.mem_append.1 hx with hx|hx
   ·exact ha x (by simpa using hx)
   ·exact hc x hx)
  have e:(#[]++args++captured).map (rnV f)=(#[]:Array Value).map (rnV f)++args.map (rnV f)++captured.map (rnV f):=by simp
  rw[e]at h1
  exact h1
 | nilFunc=>rw[rn_nilf];exact SR.dead (dead_panic .nilDeref)
 | _=>exact SR.dead (dead_bind (dead_stuck _) _)
theorem sr_exec(hG:GOk P S F)(hF:TFn P F){ev ev':Operand→Value}(hev:∀x, TOd F x→VOk S F (ev x)∧ev' x=rnV f (ev x))(hco:∀v, ev (.const v)=v){o:Oper}(ho:TOp P F o.op) :
  SR P S F f (NR S F f) (execOp ev o) (execOp ev' o):=by
 obtain⟨dst,op,type,pos,after,guard⟩:=o
 unfold execOp
 cases op with
 | move x=>have h:=hev x ho;exact SR.ret ⟨h.1,by rw[h.2]⟩
 | assign x=>have h:=hev x ho;exact SR.ret ⟨h.1,by rw[h.2]⟩
 | pick c a b=>
  have hc:=hev c ho.1
  have ha:=hev a ho.2.1
  have hb:=hev b ho.2.2
  dsimp only
  rw[hc.2,ha.2,hb.2]
  refine SR.bind' sr_bool ?_
  rintro t _ rfl
  cases t
  ·exact SR.ret ⟨hb.1,rfl⟩
  ·exact SR.ret ⟨ha.1,rfl⟩
 | alloc t=>exact sr_value (sr_alloc ho)
 | box t x=>have h:=hev x ho;dsimp only;rw[h.2];exact sr_value (sr_box t h.1)
 | build t ps=>
  have h:=map_parts ho.2 hev
  dsimp only
  have e1:(ps.map fun(x:Nat×Operand)=>match x with|(i,x)=>(i,ev' x))=ps.map fun p=>(p.1,ev' p.2):=rfl
  have e2:(ps.map fun(x:Nat×Operand)=>match x with|(i,x)=>(i,ev x))=ps.map fun p=>(p.1,ev p.2):=rfl
  rw[e1,e2,h.1]
  exact sr_value (sr_build ho.1 h.2)
 | buildSlice t n ps=>
  have h:=map_parts ho.2 hev
  dsimp only
  have e1:(ps.map fun(x:Nat×Operand)=>match x with|(i,x)=>(i,ev' x))=ps.map fun p=>(p.1,ev' p.2):=rfl
  have e2:(ps.map fun(x:Nat×Operand)=>match x with|(i,x)=>(i,ev x))=ps.map fun p=>(p.1,ev p.2):=rfl
  rw[e1,e2,h.1]
  exact sr_value (sr_buildSlice ho.1 n h.2)
 | load t x=>have h:=hev x ho;dsimp only;rw[h.2];exact sr_value (sr_loadAt t h.1)
 | store t a x=>have h:=hev a ho.1;have h2:=hev x ho.2;dsimp only;rw[h.2,h2.2];exact sr_unit (sr_storeAt t h.1 h2.1)
 | nilCheck x=>
  have h:=hev x ho
  dsimp only
  rw[h.2]
  have hx:=h.1
  generalize ev x=v at hx
  cases v with
  | pointer a=>
   cases a with
   | none=>rw[rn_nilptr];exact SR.dead (dead_panic _)
   | some a=>rw[rn_ptr];exact SR.ret ⟨hx,by rw[rn_ptr]⟩
  | nilFunc=>rw[rn_nilf];exact SR.dead (dead_panic _)
  | func fn a b=>
   have hx':=hx
   rw[VOk]at hx'
   obtain⟨⟨g,rfl,hg⟩,rfl,hc⟩:=hx'
   rw[rnV]
   exact SR.ret ⟨hx,by rw[rnV]⟩
  | int k n=>rw[rn_int];exact SR.ret ⟨hx,by rw[rn_int]⟩
  | bool b=>rw[rn_bool];exact SR.ret ⟨hx,by rw[rn_bool]⟩
  | slice a n c=>rw[rn_slice];exact SR.ret ⟨hx,by rw[rn_slice]⟩
  | agg c=>rw[rn_agg];exact SR.ret ⟨hx,by rw[rn_agg]⟩
  | tuple c=>rw[rnV];exact SR.ret ⟨hx,by rw[rnV]⟩
  | _=>simp[VOk]at hx
 | binOp op t x y u=>
  have h1:=hev x ho.1
  have h2:=hev y ho.2.1
  dsimp only
  rw[h1.2,h2.2]
  refine sr_value (SR.bind' (sr_eqGuard x y h1.1 ?_) ?_)
  ·intro he
   rcases ho.2.2 with hs|⟨_,hg,_⟩
   ·rcases he with he|he
    ·exact absurd he hs.1
    ·exact absurd he hs.2.1
   ·exact hg
  ·intro _ _ _
   rcases ho.2.2 with hs|⟨he,hg,hc⟩
   ·exact sr_sum hG hs t h1.1 h2.1
   ·exact sr_eqNeq he h1.1 h2.1 (sr_eq hG (y:=y) h1.1 h2.1 (fun v e=>by subst e;exact hco v) hc)
 | unOp op t x=>
  have h:=hev x ho.2
  obtain⟨ho,_⟩:=ho
  dsimp only
  rw[h.2]
  refine sr_value ?_
  have hx:=h.1
  generalize ev x=v at hx
  rcases ho with rfl|rfl<;>unfold Op.unary
  ·cases v with
   | bool b=>rw[rn_bool];exact SR.ret ⟨ok_bool _,by rw[rn_bool]⟩
   | _=>exact SR.dead (dead_stuck _)
  ·cases v with
   | int k n=>rw[rn_int];exact sr_intArith _ _ _ _
   | pointer a=>
    cases a with
    | none=>exact SR.dead (dead_stuck _)
    | some a=>exact SR.dead (dead_unsup _)
   |float|complex=>rw[VOk]at hx<;>first|exact hx.elim|simp
   | _=>exact SR.dead (dead_stuck _)
 | makeFunc fn first captured=>
  obtain⟨⟨g,rfl,hg⟩,rfl,hc⟩:=ho
  have h:=map_od hc hev
  dsimp only
  rw[h.1]
  exact SR.ret ⟨by rw[VOk];exact⟨⟨g,rfl,hg⟩,by simp,h.2⟩,by rw[rnV];simp⟩
 | makeSlice t l c=>
  have h1:=hev l ho.2.1
  have h2:=hev c ho.2.2
  dsimp only
  rw[h1.2,h2.2]
  exact sr_value (sr_makeSlice ho.1 h1.1 h2.1)
 | slice t x lo hi mx=>
  have h1:=hev x ho.1
  have h2:=map_opt ho.2.1 hev
  have h3:=map_opt ho.2.2.1 hev
  have h4:=map_opt ho.2.2.2 hev
  dsimp only
  rw[h1.2,h2.1,h3.1,h4.1]
  exact sr_value (sr_sliceAt t h1.1 h2.2 h3.2 h4.2)
 | fieldAddr t x i=>have h:=hev x ho.2;dsimp only;rw[h.2];exact sr_value (sr_fieldAt t ho.1 h.1 i)
 | indexAddr t x i=>have h:=hev x ho.1;have h2:=hev i ho.2;dsimp only;rw[h.2,h2.2];exact sr_value (sr_indexAt t h.1 h2.1)
 | extract x i=>have h:=hev x ho;dsimp only;rw[h.2];exact sr_value (sr_extract h.1 i)
 | call c=>
  obtain⟨callee,args,tys⟩:=c
  have ha:=map_od ho.1 hev
  rcases ho.2 with⟨x,hx,hv⟩|hx|hx|hx|⟨hx,hz⟩
  ·cases hx
   have h:=hev x hv
   have:=sr_callV (f:=f) hF h.1 ha.2
   rw[←h.2, ←ha.1]at this
   exact this
  ·cases hx
   have:=sr_value (sr_len (P:=P) (f:=f) tys type ha.2)
   rw[←ha.1]at this
   exact this
  ·cases hx
   have:=sr_value (sr_max (P:=P) (f:=f) tys type ha.2)
   rw[←ha.1]at this
   exact this
  ·cases hx
   have:=sr_value (sr_copy (P:=P) (f:=f) tys type ha.2)
   rw[←ha.1]at this
   exact this
  ·cases hx
   have:=sr_value (sr_append (P:=P) (f:=f) (tys:=tys) (fun ty e h1 h2=>hz ty h1 e h2) type ha.2)
   rw[←ha.1]at this
   exact this
 | _=>exact ho.elim
end
end
section
section
variable {P:Program}{S:Nat→Prop}{F:Fx}{f:Nat→Nat}{α:Type}{R:α→α→Prop}{V V' W:World}
theorem Dead.hk {s:Sem α}(hd:Dead P s){es es1:Array Event}{h:Halt}(hr:s.runT P V es=(.halt h V',es1)):Hk h:=by
 obtain⟨x,w,t,hx,e⟩:=hd V es
 rw[e]at hr
 simp only[Prod.mk.injEq,Result.halt.injEq]at hr
 exact hr.1.1▸hx
theorem noCell_hk {a:Addr}{what:String}(h:Cl S F V)(hs:S a.block):Hk (V.noCell a what):=by
 unfold World.noCell
 split
 ·rename_i c t e
  obtain⟨o,ho,hk⟩:=h.blk _ hs (lt_of_some e)
  rw[e]at ho;cases ho
  exact hk.elim
 ·intro g h;cases h
 ·trivial
theorem SR.halts {s s':Sem α}(h:SR P S F f R s s')(hV:Cl S F V){es es1:Array Event}{x:Halt}(hr:s.runT P V es=(.halt x V',es1)):Hk x:=by
 induction s generalizing s' V es with
 | pure a=>simp[Sem.runT]at hr
 | load m a c ih=>
  rcases h with h|⟨c',rfl,hm,hs,hc⟩
  ·exact h.hk hr
  ·simp only[Sem.runT]at hr
   split at hr
   ·rename_i v hv
    exact ih v (hc v (hV.ok_cell hs.1 hv)) hV hr
   ·have e:∃what, V.farLoad P a (m == .atomic) = .error (V.noCell a what):=by
     unfold World.farLoad
     split
     ·rename_i y z e;exact absurd e (hV.noView hs.1 y z)
     ·exact⟨_,rfl⟩
    obtain⟨what,e⟩:=e
    rw[e]at hr
    simp only[Prod.mk.injEq,Result.halt.injEq]at hr
    exact hr.1.1▸noCell_hk hV hs.1
 | store m a v c ih=>
  rcases h with h|⟨c',rfl,hm,hs,hv,hc⟩
  ·exact h.hk hr
  ·by_cases h1:One v
   ·cases ho:V.cell? a with
    | none=>
     have e:∃what,V.farStore P a v (m == .atomic) = .error (V.noCell a what):=by
      unfold World.farStore
      split
      ·rename_i y z e;exact absurd e (hV.noView hs.1 y z)
      ·exact⟨_,rfl⟩
     obtain⟨what,e⟩:=e
     have e2:x=V.noCell a what:=by
      cases v<;>first|exact h1.elim|(simp only[Sem.runT,ho,e,Prod.mk.injEq,Result.halt.injEq]at hr;exact hr.1.1.symm)
     rw[e2]
     exact noCell_hk hV hs.1
    | some old=>
     cases hf:V.frozen? a with
     | true=>
      have e2:∃u,x = .unsupported u∧∀g,u ≠ .initOrder g:=by
       cases v<;>first|exact h1.elim|(simp only[Sem.runT,ho,hf,if_true,Prod.mk.injEq,Result.halt.injEq]at hr;exact⟨_,hr.1.1.symm,fun g h=>by cases h⟩)
      obtain⟨u,rfl,hu⟩:=e2
      exact hu
     | false=>
      rw[runT_store_eq h1 ho hf]at hr
      have:=ih hc (hV.setCell hv) hr
      exact this
   ·have e2:∃y, x = .stuck y:=by
     cases v<;>first|exact absurd trivial h1|(simp only[Sem.runT,Prod.mk.injEq,Result.halt.injEq]at hr;exact⟨_,hr.1.1.symm⟩)
    obtain⟨y,rfl⟩:=e2
    trivial
 | new o c ih=>
  rcases h with h|⟨c',rfl,ho,hc⟩
  ·exact h.hk hr
  ·simp only[Sem.runT]at hr
   have hn:=hV.nxt _ (Nat.le_refl _)
   have:=ih _ (hc _ hn.1 hn.2) (hV.push ho) hr
   exact this
 | shape r c ih=>
  rcases h with h|⟨c',rfl,hs,hc⟩
  ·exact h.hk hr
  ·simp only[Sem.runT]at hr
   exact ih _ (hc _ _ (hV.shr r)) hV hr
 | getObj r c ih=>
  rcases h with h|⟨c',rfl,hs,hc⟩
  ·exact h.hk hr
  ·simp only[Sem.runT]at hr
   split at hr
   ·simp only[Prod.mk.injEq,Result.halt.injEq]at hr;rw[←hr.1.1];trivial
   ·rename_i o _ ho
    obtain⟨o',ho',hk⟩:=hV.blk r hs (lt_of_some ho)
    rw[ho]at ho';cases ho'
    exact ih _ (hc _ hk) hV hr
   ·simp only[Prod.mk.injEq,Result.halt.injEq]at hr;rw[←hr.1.1];trivial
 | choose q c ih=>
  rcases h with h|⟨c',rfl,hc⟩
  ·exact h.hk hr
  ·simp only[Sem.runT]at hr
   split at hr
   ·exact ih _ (hc _) hV hr
   ·exact ih _ (hc _) (hV.drew _) hr
 | program c ih=>
  rcases h with h|⟨c',rfl,hc⟩
  ·exact h.hk hr
  ·simp only[Sem.runT]at hr
   exact ih _ hc hV hr
 | mark m c ih=>
  rcases h with h|⟨c',rfl,hb,hc⟩
  ·exact h.hk hr
  ·simp only[Sem.runT]at hr
   exact ih hc hV hr
 | freeze a n c _=>exact Dead.hk (s:= .freeze a n c) h hr
 | frozen a c _=>exact Dead.hk (s:= .frozen a c) h hr
 | setObj r o c _=>exact Dead.hk (s:= .setObj r o c) h hr
 | sys c k2 _=>exact Dead.hk (s:= .sys c k2) h hr
 | halt y=>
  simp only[Sem.runT,Prod.mk.injEq,Result.halt.injEq]at hr
  rw[←hr.1.1]
  exact h
theorem foldl_hom {A B E:Type}(r:E→E)(m:B→B)(g:A×B→E→A×B)(h:∀q k e,g (q,m k) (r e)=((g (q,k) e).1,m (g (q,k) e).2)):∀(l:List E) (q:A) (k:B),(l.map r).foldl g (q,m k)=((l.foldl g (q,k)).1,m (l.foldl g (q,k)).2):=by
 intro l
 induction l with
 | nil=>intro q k;rfl
 | cons e l ih=>
  intro q k
  simp only[List.map_cons,List.foldl_cons]
  rw[h]
  exact ih _ _
theorem foldl_hom0 {A B E:Type}(r:E→E)(m:B→B)(g:A×B→E→A×B)(h:∀q k e,g (q,m k) (r e)=((g (q,k) e).1,m (g (q,k) e).2)){k:B}(h0:m k=k)(l:List E)(q:A):(l.map r).foldl g (q,k)=((l.foldl g (q,k)).1,m (l.foldl g (q,k)).2):=by
 have:=foldl_hom r m g h l q k
 rw[h0]at this
 exact this
theorem seen_rn(P:Program)(fn:FuncId)(es:Array Event):seen P fn (es.map (rnE f))=(seen P fn es).map (rnE f):=by
 unfold seen
 dsimp only
 rw[←Array.foldl_toList, ←Array.foldl_toList,Array.toList_map]
 refine congrArg Prod.snd (foldl_hom0 (rnE f) (fun k:Array Event=>k.map (rnE f)) _ ?_ (by simp) es.toList _)
 rintro q k ⟨loc,wr,sy⟩
 cases loc with
 | mark m=>cases m<;>cases q<;>cases sy<;>simp[rnE]
 | _=>cases q<;>cases sy<;>simp[rnE]
end
end
section
section
variable {P:Program}{S:Nat→Prop}{F:Fx}{f:Nat→Nat}
theorem sr_addr {x:Value}(hx:VOk S F x):SR P S F f (AR S F f) (asAddr x) (asAddr (rnV f x)):=by
 cases x with
 | pointer a=>
  cases a with
  | none=>exact SR.dead (dead_panic .nilDeref)
  | some a=>rw[rn_ptr];rw[VOk]at hx;exact SR.ret ⟨hx a rfl,rfl⟩
 | _=>exact SR.dead (dead_stuck _)
theorem slot_ok {tmps:Array Value}(h:∀v,v∈tmps→VOk S F v)(t:Nat):VOk S F (tmps.getD t undef)∧(tmps.map (rnV f)).getD t undef=rnV f (tmps.getD t undef):=by
 simp only[Array.getD_eq_getD_getElem?,Array.getElem?_map]
 cases e:tmps[t]? with
 | none=>exact⟨ok_undef S F,(rnV_undef f).symm⟩
 | some v=>exact⟨h v (Array.mem_of_getElem? e),rfl⟩
def LR(S:Nat→Prop)(F:Fx)(f:Nat→Nat)(l l':List Value):Prop:=(∀v,v∈l→VOk S F v)∧l'=l.map (rnV f)
theorem sr_results(fn:Func){tmps:Array Value}(h:∀v,v∈tmps→VOk S F v):SR P S F f (VR S F f) (results fn tmps) (results fn (tmps.map (rnV f))):=by
 unfold results
 simp only[Array.mapM_eq_mapM_toList]
 refine SR.bind' (R:=CR S F f) ?_ ?_
 ·show SR P S F f _ (List.toArray <$> _) (List.toArray <$> _)
  rw[←bind_pure_comp, ←bind_pure_comp]
  refine SR.bind' (R:=LR S F f) ?_ ?_
  ·generalize fn.results.toList=l
   induction l with
   | nil=>exact SR.ret ⟨fun v hv=>by simp at hv,rfl⟩
   | cons r l ih=>
    rw[List.mapM_cons,List.mapM_cons]
    refine SR.bind' (R:=VR S F f) ?_ ?_
    ·cases r with
     | tmp t=>have:=slot_ok (f:=f) h t;exact SR.ret ⟨this.1,this.2⟩
     | cell a t=>
      have:=slot_ok (f:=f) h a
      show SR P S F f _ (asAddr (tmps.getD a undef) >>= fun x=>loadVar t x) (asAddr ((tmps.map (rnV f)).getD a undef) >>= fun x=>loadVar t x)
      rw[this.2]
      refine SR.bind' (sr_addr this.1) ?_
      rintro x _ ⟨hx,rfl⟩
      exact sr_loadVar t hx
    ·rintro v _ ⟨hv,rfl⟩
     refine SR.bind' ih ?_
     rintro vs _ ⟨hvs,rfl⟩
     exact SR.ret ⟨fun x hx=>by rcases List.mem_cons.1 hx with rfl|hx;exact hv;exact hvs x hx,rfl⟩
  ·rintro l _ ⟨hl,rfl⟩
   exact SR.ret ⟨fun v hv=>hl v (by simpa using hv),by simp⟩
 ·rintro vs _ ⟨hvs,rfl⟩
  refine SR.ret ⟨?_,?_⟩
  ·split
   ·exact hvs _ (Array.getElem_mem _)
   ·rw[VOk];exact hvs
  ·simp only[Array.size_map]
   split
   ·simp
   ·rw[rnV]
def COk(P:Program)(F:Fx):Code→Prop
 |.skip | .exit _ | .ret=>True
 | .region _ ops _=>∀o,o∈ops→TOp P F o.op
 | .seq a b=>COk P F a∧COk P F b
 | .cond c a b=>TOd F c∧COk P F a∧COk P F b
 |.block _ c | .loop c=>COk P F c
 | _=>False
def IOk(P:Program)(F:Fx):Item→Prop
 |.code c | .inLoop c=>COk P F c
 | .inBlock _=>True
 | .inRegion ops _=>∀o,o∈ops→TOp P F o.op
 | _=>False
def FnE (P : Program) (g : FuncId) : Prop := (∃ fn, P.funcs[g]? = some fn ∧ fn.body.isSome = true ∧ (fn.name == "runtime.NumGoroutine") = false) ∧ P.inits.idxOf? g = none
structure FOk(P:Program)(S:Nat→Prop)(F:Fx)(fr:Frame):Prop where
 fn:FnE P fr.fn
 tmps:∀v,v∈fr.tmps→VOk S F v
 todo:∀i,i∈fr.todo→IOk P F i
 defers:fr.defers=[]
 kind:fr.kind = .normal
 round:fr.roundOf=none
 mode:fr.mode = .run∨fr.mode = .returning
def rnF(f:Nat→Nat)(fr:Frame):Frame:={ fr with tmps:=fr.tmps.map (rnV f)}
structure Fns(P:Program)(F:Fx):Prop where
 enter:TFn P F
 body:∀g fn c,F.fn g→P.funcs[g]?=some fn→fn.body=some c→COk P F c
 init:∀g,F.fn g→P.inits.idxOf? g=none
theorem Fns.fnE {P:Program}{F:Fx}(h:Fns P F){g:Nat}(hg:F.fn g):FnE P g:=⟨h.enter g hg,h.init g hg⟩
theorem eval_ok {fr:Frame}(h:∀v,v∈fr.tmps→VOk S F v)(x:Operand)(hx:TOd F x):VOk S F (fr.eval x)∧(rnF f fr).eval x=rnV f (fr.eval x):=by
 cases x with
 | tmp t=>exact slot_ok h t
 | const v=>exact⟨NoB.ok hx S F,(NoB.rn hx f).symm⟩
 | func g => refine ⟨?_, ?_⟩
             · show VOk S F (.func (.func g) #[] #[])
               rw[VOk]
               exact⟨⟨g,rfl,hx⟩,rfl,fun v hv=>by simp at hv⟩
             · show Value.func (.func g) #[] #[]=rnV f (.func (.func g) #[] #[])
               rw[rnV]
               simp
 | global g=>exact hx.elim
end
end
section
open Go.Conc (G)
section
variable {P:Program}{S:Nat→Prop}{F:Fx}{f:Nat→Nat}{V V1 W:World}
def Goes1(P:Program)(S:Nat→Prop)(F:Fx)(f:Nat→Nat)(main:Bool)(V V1 W:World)(fr:Frame)(cs cb bs:List Frame)(g1:Goroutine)(es:Array Event):Prop:=
 ∃(fr1:Frame) (cs1:List Frame) (W1:World),g1=G fr1 (cs1++cb)∧FOk P S F fr1∧(∀c,c∈cs1→FOk P S F c)∧
  stepG P main (G (rnF f fr) (cs.map (rnF f)++bs)) W = .go (G (rnF f fr1) (cs1.map (rnF f)++bs)) W1 (es.map (rnE f))∧Sim S F f V1 W1∧Both S f V V1 W W1∧∀e,e∈es→EvS S V V1 e
theorem goes_still {main:Bool}{fr fr1:Frame}{cs cb bs:List Frame}(hV:Sim S F f V W)(hc:∀c, c∈cs→FOk P S F c)(h1:FOk P S F fr1)
  (hs:stepG P main (G (rnF f fr) (cs.map (rnF f)++bs)) W = .go (G (rnF f fr1) (cs.map (rnF f)++bs)) W):Goes1 P S F f main V V W fr cs cb bs (G fr1 (cs++cb)) #[]:=
 ⟨fr1,cs,W,rfl,h1,hc,by rw[hs,Array.map_empty],hV,Both.refl V W,fun e he=>by simp at he⟩
theorem exit_ok(id:Nat):∀(k k':List Item),(∀i,i∈k→IOk P F i)→exitTo id k=some k'→∀i,i∈k'→IOk P F i:=by
 intro k
 induction k with
 | nil=>intro k' _ e;simp[exitTo]at e
 | cons x k ih=>
  intro k' h e
  have hk:∀i,i∈k→IOk P F i:=fun i hi=>h i (by simp[hi])
  cases x<;>simp only[exitTo]at e<;>first|exact ih k' hk e|(split at e;(cases e;exact hk);exact ih k' hk e)
theorem step_control {main:Bool}{fr:Frame}{cs cb bs:List Frame}(h0:FOk P S F fr)(hm:fr.mode = .run)(hc:∀c, c∈cs→FOk P S F c)(hV:Sim S F f V W){g1:Goroutine}{es:Array Event}
  (hs:stepG P true (G fr (cs++cb)) V = .go g1 V1 es) (hno:∀id ops d k,fr.todo ≠ .code (.region id ops d)::k) (hno2:∀ops l k,fr.todo ≠ .inRegion ops l::k):Goes1 P S F f main V V1 W fr cs cb bs g1 es:=by
 obtain⟨fn,tmps,todo,defers,mode,kind,round⟩:=fr
 have e1:mode = .run:=hm
 have e2:defers=[]:=h0.defers
 have e3:kind = .normal:=h0.kind
 have e4:round=none:=h0.round
 subst e1 e2 e3 e4
 have ht:=h0.todo
 cases todo with
 | nil=>
  simp only[G,stepG,stepG.exec]at hs
  obtain⟨rfl,rfl,rfl⟩:=hs
  exact goes_still hV hc ⟨h0.fn,h0.tmps,h0.todo,rfl,rfl,rfl,Or.inr rfl⟩ (by simp[G,rnF,stepG,stepG.exec])
 | cons x k=>
  have hx:=ht x (by simp)
  have hk:∀i,i∈k→IOk P F i:=fun i hi=>ht i (by simp[hi])
  cases x with
  | code c=>
   cases c with
   | ret=>
    simp only[G,stepG,stepG.exec]at hs
    obtain⟨rfl,rfl,rfl⟩:=hs
    exact goes_still hV hc ⟨h0.fn,h0.tmps,h0.todo,rfl,rfl,rfl,Or.inr rfl⟩ (by simp[G,rnF,stepG,stepG.exec])
   | skip=>
    simp only[G,stepG,stepG.exec,GStep.go.injEq]at hs
    obtain⟨rfl,rfl,rfl⟩:=hs
    exact goes_still hV hc ⟨h0.fn,h0.tmps,hk,rfl,rfl,rfl,Or.inl rfl⟩ (by simp[G,rnF,stepG,stepG.exec])
   | seq a b=>
    simp only[G,stepG,stepG.exec,GStep.go.injEq]at hs
    obtain⟨rfl,rfl,rfl⟩:=hs
    have ha:COk P F a∧COk P F b:=hx
    refine goes_still hV hc ⟨h0.fn,h0.tmps,fun i hi=>?_,rfl,rfl,rfl,Or.inl rfl⟩ (by simp[G,rnF,stepG,stepG.exec])
    rcases List.mem_cons.1 hi with rfl|hi
    ·exact ha.1
    ·rcases List.mem_cons.1 hi with rfl|hi
     ·exact ha.2
     ·exact hk i hi
   | block id b=>
    simp only[G,stepG,stepG.exec,GStep.go.injEq]at hs
    obtain⟨rfl,rfl,rfl⟩:=hs
    refine goes_still hV hc ⟨h0.fn,h0.tmps,fun i hi=>?_,rfl,rfl,rfl,Or.inl rfl⟩ (by simp[G,rnF,stepG,stepG.exec])
    rcases List.mem_cons.1 hi with rfl|hi
    ·exact hx
    ·rcases List.mem_cons.1 hi with rfl|hi
     ·trivial
     ·exact hk i hi
   | loop b=>
    simp only[G,stepG,stepG.exec,GStep.go.injEq]at hs
    obtain⟨rfl,rfl,rfl⟩:=hs
    refine goes_still hV hc ⟨h0.fn,h0.tmps,fun i hi=>?_,rfl,rfl,rfl,Or.inl rfl⟩ (by simp[G,rnF,stepG,stepG.exec])
    rcases List.mem_cons.1 hi with rfl|hi
    ·exact hx
    ·rcases List.mem_cons.1 hi with rfl|hi
     ·exact hx
     ·exact hk i hi
   | region id ops d=>exact absurd rfl (hno id ops d k)
   | cond c a b=>
    have hh:TOd F c∧COk P F a∧COk P F b:=hx
    have he:=eval_ok (f:=f) (fr:=⟨fn,tmps,.code (.cond c a b)::k,[],.run,.normal,none⟩) h0.tmps c hh.1
    simp only[G,stepG,stepG.exec]at hs
    cases hb:(Frame.eval ⟨fn,tmps,.code (.cond c a b)::k,[],.run,.normal,none⟩ c)with
    | bool t=>
     rw[hb]at hs he
     simp only[GStep.go.injEq]at hs
     obtain⟨rfl,rfl,rfl⟩:=hs
     have he2:=he.2
     rw[rn_bool]at he2
     refine goes_still hV hc ⟨h0.fn,h0.tmps,fun i hi=>?_,rfl,rfl,rfl,Or.inl rfl⟩ (by simp only[rnF]at he2;simp[G,rnF,stepG,stepG.exec,he2])
     rcases List.mem_cons.1 hi with rfl|hi
     ·cases t
      ·exact hh.2.2
      ·exact hh.2.1
     ·exact hk i hi
    | _=>rw[hb]at hs;cases hs
   | exit id=>
    simp only[G,stepG,stepG.exec]at hs
    cases he:exitTo id k with
    | none=>rw[he]at hs;cases hs
    | some k'=>
     rw[he]at hs
     simp only[Option.elim_some,GStep.go.injEq]at hs
     obtain⟨rfl,rfl,rfl⟩:=hs
     exact goes_still hV hc ⟨h0.fn,h0.tmps,exit_ok id k k' hk he,rfl,rfl,rfl,Or.inl rfl⟩ (by simp[G,rnF,stepG,stepG.exec,he])
   | _=>exact hx.elim
  | inBlock id=>
   simp only[G,stepG,stepG.exec,GStep.go.injEq]at hs
   obtain⟨rfl,rfl,rfl⟩:=hs
   exact goes_still hV hc ⟨h0.fn,h0.tmps,hk,rfl,rfl,rfl,Or.inl rfl⟩ (by simp[G,rnF,stepG,stepG.exec])
  | inLoop b=>
   simp only[G,stepG,stepG.exec,GStep.go.injEq]at hs
   obtain⟨rfl,rfl,rfl⟩:=hs
   refine goes_still hV hc ⟨h0.fn,h0.tmps,fun i hi=>?_,rfl,rfl,rfl,Or.inl rfl⟩ (by simp[G,rnF,stepG,stepG.exec])
   rcases List.mem_cons.1 hi with rfl|hi
   ·exact hx
   ·rcases List.mem_cons.1 hi with rfl|hi
    ·exact hx
    ·exact hk i hi
  | inRegion ops l=>exact absurd rfl (hno2 ops l k)
  | _=>exact hx.elim
end
end
section
open Go.Conc (G)
section
variable {P:Program}{S:Nat→Prop}{F:Fx}{f:Nat→Nat}{V V1 W:World}
theorem yield_rn(ops:Array Oper)(tmps:Array Value)(j:Nat):yielded ops (tmps.map (rnV f)) j=yielded ops tmps j:=by
 unfold yielded
 cases e:(ops[j]?).bind (·.dst)with
 | none=>rfl
 | some d=>
  simp only[Option.bind_some,Array.getElem?_map]
  cases tmps[d]? with
  | none=>rfl
  | some v=>cases v<;>simp[rnV]
theorem finish_rn(fn:FuncId)(tmps:Array Value)(ops:Array Oper)(i:Nat)(rest:List Nat)(k:List Item)(v:Value) :
  (rnF f (⟨fn,tmps,.inRegion ops (i::rest)::k,[],.run,.normal,none⟩:Frame)).finish (rnV f v)=rnF f ((⟨fn,tmps,.inRegion ops (i::rest)::k,[],.run,.normal,none⟩:Frame).finish v):=by
 unfold Frame.finish rnF
 dsimp only
 cases e:(ops[i]?).bind (·.dst)with
 | none=>rfl
 | some d=>simp
theorem finish_ok {fn:FuncId}{tmps:Array Value}{ops:Array Oper}{i:Nat}{rest:List Nat}{k:List Item}{v:Value}(h:FOk P S F (⟨fn, tmps,.inRegion ops (i::rest)::k,[],.run,.normal, none⟩:Frame))(hv:VOk S F v) :
  FOk P S F ((⟨fn,tmps,.inRegion ops (i::rest)::k,[],.run,.normal,none⟩:Frame).finish v):=by
 have ht:∀x,x∈(Item.inRegion ops rest::k)→IOk P F x:=by
  intro x hx
  rcases List.mem_cons.1 hx with rfl|hx
  ·exact h.todo (.inRegion ops (i::rest)) (by simp)
  ·exact h.todo x (by simp[hx])
 unfold Frame.finish
 dsimp only
 cases e:(ops[i]?).bind (·.dst)with
 | none=>exact⟨h.fn,h.tmps,ht,rfl,rfl,rfl,Or.inl rfl⟩
 | some d=>
  refine⟨h.fn,fun x hx=>?_,ht,rfl,rfl,rfl,Or.inl rfl⟩
  rcases Array.mem_or_eq_of_mem_setIfInBounds hx with hx|rfl
  ·exact h.tmps x hx
  ·exact hv
theorem enter_rn(g:FuncId)(args:Array Value):Frame.enter P g (args.map (rnV f)) .normal=rnF f (Frame.enter P g args .normal):=by
 unfold Frame.enter rnF
 simp[rnV_undef]
theorem enter_ok(hP:Fns P F){g:FuncId}(hg:F.fn g){args:Array Value}(ha:∀v,v∈args→VOk S F v):FOk P S F (Frame.enter P g args .normal):=by
 obtain⟨fn,h1,h2,h3⟩:=hP.enter g hg
 obtain⟨c,hc⟩:=Option.isSome_iff_exists.1 h2
 refine⟨hP.fnE hg,fun v hv=>?_,fun i hi=>?_,rfl,rfl,rfl,Or.inl rfl⟩
 ·rcases Array.mem_append.1 hv with hv|hv
  ·exact ha v hv
  ·have:v=undef:=by simp[Array.mem_replicate]at hv;exact hv.2
   rw[this];exact ok_undef S F
 ·have e:(Frame.enter P g args .normal).todo=[.code c]:=by simp[Frame.enter,h1,hc]
  rw[e]at hi
  have hi:i = .code c:=by simpa using hi
  subst hi
  exact hP.body g fn c hg h1 hc
end
end
section
open Go.Conc (G)
section
variable {P:Program}{S:Nat→Prop}{F:Fx}{f:Nat→Nat}{V V1 W:World}
theorem seen_sub(P:Program)(fn:FuncId)(es:Array Event):∀e,e∈seen P fn es→e∈es:=by
 have h:∀(l:List Event) (q:Bool) (kept:Array Event) (g:Bool×Array Event→Event→Bool×Array Event),(∀q k e, ∀x,x∈(g (q,k) e).2→x∈k∨x=e)→∀x,x∈(l.foldl g (q,kept)).2→x∈kept∨x∈l:=by
  intro l
  induction l with
  | nil=>intro q kept g _ x hx;exact Or.inl hx
  | cons e l ih=>
   intro q kept g hg x hx
   simp only[List.foldl_cons]at hx
   rcases ih _ _ g hg x hx with hx|hx
   ·rcases hg q kept e x hx with hx|rfl
    ·exact Or.inl hx
    ·exact Or.inr (by simp)
   ·exact Or.inr (by simp[hx])
 intro e he
 unfold seen at he
 dsimp only at he
 rw[←Array.foldl_toList]at he
 have h0:=h es.toList _ _ _ ?_ e he
 ·rcases h0 with h0|h0
  ·simp at h0
  ·exact Array.mem_toList_iff.1 h0
 ·intro q k e x hx
  dsimp only at hx
  split at hx
  ·exact Or.inl hx
  ·dsimp only at hx
   split at hx
   ·exact Or.inl hx
   ·rcases Array.mem_push.1 hx with hx|hx
    ·exact Or.inl hx
    ·exact Or.inr hx
theorem step_oper {main:Bool}(hG:GOk P S F)(hP:Fns P F){fn:FuncId}{tmps:Array Value}{ops:Array Oper}{i:Nat}{rest:List Nat}{k:List Item}{cs cb bs:List Frame}
  (h0:FOk P S F (⟨fn,tmps,.inRegion ops (i::rest)::k,[],.run,.normal,none⟩:Frame)) (hc:∀c,c∈cs→FOk P S F c) (hV:Sim S F f V W) {g1:Goroutine} {es:Array Event}
  (hs:stepG P true (G ⟨fn,tmps,.inRegion ops (i::rest)::k,[],.run,.normal,none⟩ (cs++cb)) V = .go g1 V1 es) (hnp:∀ch,g1.frame.mode ≠ .panicking ch)
  (ha:∀j q,V.drawn≤j→j<V1.drawn→V.tape j q=W.tape (W.drawn+(j-V.drawn)) q):Goes1 P S F f main V V1 W ⟨fn,tmps,.inRegion ops (i::rest)::k,[],.run,.normal,none⟩ cs cb bs g1 es:=by
 have hy:∀j,yielded ops (tmps.map (rnV f)) j=yielded ops tmps j:=yield_rn ops tmps
 have hy':yielded ops (tmps.map (rnV f))=yielded ops tmps:=funext hy
 by_cases hw:(Option.map (fun x=>Region.wanted x (yielded ops tmps)) ops[i]?).getD false=true
 ·cases ho:ops[i]? with
  | none=>rw[ho]at hw;cases hw
  | some o=>
   have hw1:Region.wanted o (yielded ops tmps)=true:=by rw[ho]at hw;exact hw
   have hst:∀(m:Bool) (cs:List Frame) (w:World),stepG P m (G ⟨fn,tmps,.inRegion ops (i::rest)::k,[],.run,.normal,none⟩ cs) w=stepG.apply P true ⟨fn,tmps,.inRegion ops (i::rest)::k,[],.run,.normal,none⟩ cs none (execOp (Frame.eval ⟨fn,tmps,.inRegion ops (i::rest)::k,[],.run,.normal,none⟩) o) w:=by
    intro m cs w
    simp[G,stepG,stepG.exec,stepG.oper,Frame.oper?,ho,hw1]
   have hst':∀(m:Bool) (cs:List Frame) (w:World),stepG P m (G (rnF f ⟨fn,tmps,.inRegion ops (i::rest)::k,[],.run,.normal,none⟩) cs) w=stepG.apply P true (rnF f ⟨fn,tmps,.inRegion ops (i::rest)::k,[],.run,.normal,none⟩) cs none (execOp (rnF f ⟨fn,tmps,.inRegion ops (i::rest)::k,[],.run,.normal,none⟩).eval o) w:=by
    intro m cs w
    simp[G,rnF,stepG,stepG.exec,stepG.oper,Frame.oper?,ho,hy',hw1]
   rw[hst]at hs
   have hop:TOp P F o.op:=h0.todo (.inRegion ops (i::rest)) (by simp) o (Array.mem_of_getElem? ho)
   have hsr:=sr_exec (P:=P) (S:=S) (F:=F) (f:=f) hG hP.enter (ev:=Frame.eval ⟨fn,tmps,.inRegion ops (i::rest)::k,[],.run,.normal,none⟩) (ev':=(rnF f ⟨fn,tmps,.inRegion ops (i::rest)::k,[],.run,.normal,none⟩).eval) (fun x hx=>eval_ok h0.tmps x hx) (fun v=>rfl) (o:=o) hop
   unfold stepG.apply at hs
   cases hr:(execOp (Frame.eval ⟨fn,tmps,.inRegion ops (i::rest)::k,[],.run,.normal,none⟩) o).runT P V #[]with
   | mk r E=>
    rw[hr]at hs
    cases r with
    | halt x V'=>
     have hk:=hsr.halts hV.cl hr
     cases x with
     | panic v=>
      simp[GStep.after]at hs
      obtain⟨rfl,_,_⟩:=hs
      exact absurd rfl (hnp _)
     | stuck m=>simp[GStep.after]at hs
     | unsupported u=>cases u<;>first|(simp[GStep.after]at hs;done)|exact absurd rfl (hk _)
     | _=>exact hk.elim
    | ok n V'=>
     cases n with
     | value v=>
      simp[GStep.after]at hs
      obtain⟨rfl,rfl,rfl⟩:=hs
      obtain⟨n',W',E',e1,h2,h3,h4,h5,h6⟩:=hsr.run hV hr ha
      obtain⟨hv,rfl⟩:=h3
      have e1:E=E':=by simpa using e1
      subst e1
      refine⟨_,cs,W',rfl,finish_ok h0 hv,hc,?_,h4,h5,fun e he=>h6 e (seen_sub P fn E e he)⟩
      rw[hst', ←finish_rn]
      unfold stepG.apply
      rw[h2 #[]]
      simp[GStep.after,rnF,G,seen_rn]
     | skip=>
      simp[GStep.after]at hs
      obtain⟨rfl,rfl,rfl⟩:=hs
      obtain⟨n',W',E',e1,h2,h3,h4,h5,h6⟩:=hsr.run hV hr ha
      have h3:n' = .skip:=h3
      subst h3
      have e1:E=E':=by simpa using e1
      subst e1
      refine⟨_,cs,W',rfl,finish_ok h0 (ok_undef S F),hc,?_,h4,h5,fun e he=>h6 e (seen_sub P fn E e he)⟩
      rw[hst', ←finish_rn,rnV_undef]
      unfold stepG.apply
      rw[h2 #[]]
      simp[GStep.after,rnF,G,seen_rn]
     | enter g args=>
      simp[GStep.after]at hs
      obtain⟨rfl,rfl,rfl⟩:=hs
      obtain⟨n',W',E',e1,h2,h3,h4,h5,h6⟩:=hsr.run hV hr ha
      obtain⟨hg,hargs,rfl⟩:=h3
      have e1:E=E':=by simpa using e1
      subst e1
      refine⟨_,⟨fn,tmps,.inRegion ops (i::rest)::k,[],.run,.normal,none⟩::cs,W',rfl,enter_ok hP hg hargs,fun c hx=>?_,?_,h4,h5,fun e he=>h6 e (seen_sub P fn E e he)⟩
      ·rcases List.mem_cons.1 hx with rfl|hx
       ·exact h0
       ·exact hc c hx
      ·rw[hst', ←enter_rn]
       unfold stepG.apply
       rw[h2 #[]]
       simp[GStep.after,rnF,G,seen_rn]
     | _=>
      exfalso
      obtain⟨n',W',E',e1,h2,h3,h4,h5,h6⟩:=hsr.run (V':=V') (W:={ W with tape:=fun j q=>V.tape (V.drawn+(j-W.drawn)) q }) ⟨hV.cl,hV.blk,hV.inj,hV.nxt⟩ hr (fun j q h1 h2=>by show V.tape j q=V.tape (V.drawn+(W.drawn+(j-V.drawn)-W.drawn)) q;congr 1;omega)
      exact h3.elim
 ·have hw1:(Option.map (fun x=>Region.wanted x (yielded ops tmps)) ops[i]?).getD false=false:=by simpa using hw
  simp[G,stepG,stepG.exec,hw1]at hs
  obtain⟨rfl,rfl,rfl⟩:=hs
  refine goes_still hV hc (finish_ok h0 (ok_undef S F)) ?_
  rw[←finish_rn,rnV_undef]
  simp[G,rnF,stepG,stepG.exec,hy',hw1]
end
end
section
open Go.Conc (G)
section
variable {P:Program}{S:Nat→Prop}{F:Fx}{f:Nat→Nat}{V V1 W:World}
theorem step_open {main:Bool}{fn:FuncId}{tmps:Array Value}{ops:Array Oper}{id:Nat}{d:Bool}{k:List Item}{cs cb bs:List Frame}
  (h0:FOk P S F (⟨fn,tmps,.code (.region id ops d)::k,[],.run,.normal,none⟩:Frame)) (hc:∀c,c∈cs→FOk P S F c) (hV:Sim S F f V W) {g1:Goroutine} {es:Array Event}
  (hs:stepG P true (G ⟨fn,tmps,.code (.region id ops d)::k,[],.run,.normal,none⟩ (cs++cb)) V = .go g1 V1 es)
  (ha:∀j q,V.drawn≤j→j<V1.drawn→V.tape j q=W.tape (W.drawn+(j-V.drawn)) q):Goes1 P S F f main V V1 W ⟨fn,tmps,.code (.region id ops d)::k,[],.run,.normal,none⟩ cs cb bs g1 es:=by
 have hx:∀o,o∈ops→TOp P F o.op:=h0.todo (.code (.region id ops d)) (by simp)
 have hk:∀i,i∈k→IOk P F i:=fun i hi=>h0.todo i (by simp[hi])
 have hok:∀l,FOk P S F (⟨fn,tmps,.inRegion ops l::k,[],.run,.normal,none⟩:Frame):=fun l=>⟨h0.fn,h0.tmps,fun i hi=>by
  rcases List.mem_cons.1 hi with rfl|hi
  ·exact hx
  ·exact hk i hi,rfl,rfl,rfl,Or.inl rfl⟩
 cases d with
 | false=>
  simp only[G,stepG,stepG.exec,Bool.not_false,if_true,GStep.go.injEq]at hs
  obtain⟨rfl,rfl,rfl⟩:=hs
  exact goes_still hV hc (hok _) (by simp[G,rnF,stepG,stepG.exec])
 | true=>
  simp[G,stepG,stepG.exec,choose,Sem.run,Question.forced,Question.cut]at hs
  obtain⟨rfl,rfl,rfl⟩:=hs
  have e0:V.tape V.drawn (.order fn id)=W.tape W.drawn (.order fn id):=by
   have:=ha V.drawn (.order fn id) (Nat.le_refl _) (by show V.drawn<V.drawn+1;omega)
   simpa using this
  refine⟨_,cs,{ W with drawn:=W.drawn+1 },rfl,hok _,hc,?_,hV.drew _ _,?_,fun e he=>by simp at he⟩
  ·simp[G,rnF,stepG,stepG.exec,choose,Sem.run,Question.forced,Question.cut,e0]
  ·exact⟨rfl,rfl,rfl,rfl,rfl,rfl,Nat.le_refl _,by show W.heap.size=W.heap.size+(V.heap.size-V.heap.size);omega,Nat.le_succ _,by show W.drawn+1=W.drawn+(V.drawn+1-V.drawn);omega,fun _ _ _=>rfl,fun _ _ _ _=>⟨rfl,rfl⟩,fun _ _ _=>rfl⟩
theorem ret_rn {c:Frame}(hc:FOk P S F c)(v:Value):(rnF f c).finish (rnV f v)=rnF f (c.finish v):=by
 obtain⟨fn,tmps,todo,defers,mode,kind,round⟩:=c
 cases todo with
 | nil=>rfl
 | cons x k=>
  have hx:=hc.todo x (by simp)
  cases x with
  | inRegion ops l=>
   cases l with
   | nil=>rfl
   | cons i rest=>
    unfold Frame.finish rnF
    dsimp only
    cases e:(ops[i]?).bind (·.dst)with
    | none=>rfl
    | some d=>simp
  | code c=>rfl
  | inBlock _=>rfl
  | inLoop _=>rfl
  | _=>exact hx.elim
theorem ret_ok {c:Frame}(hc:FOk P S F c){v:Value}(hv:VOk S F v):FOk P S F (c.finish v):=by
 obtain⟨fn,tmps,todo,defers,mode,kind,round⟩:=c
 cases todo with
 | nil=>exact hc
 | cons x k=>
  have hx:=hc.todo x (by simp)
  cases x with
  | inRegion ops l=>
   cases l with
   | nil=>exact hc
   | cons i rest=>
    have ht:∀x,x∈(Item.inRegion ops rest::k)→IOk P F x:=by
     intro x hx
     rcases List.mem_cons.1 hx with rfl|hx
     ·exact hc.todo (.inRegion ops (i::rest)) (by simp)
     ·exact hc.todo x (by simp[hx])
    unfold Frame.finish
    dsimp only
    cases e:(ops[i]?).bind (·.dst)with
    | none=>exact⟨hc.fn,hc.tmps,ht,hc.defers,hc.kind,hc.round,hc.mode⟩
    | some d=>
     refine⟨hc.fn,fun x hx=>?_,ht,hc.defers,hc.kind,hc.round,hc.mode⟩
     rcases Array.mem_or_eq_of_mem_setIfInBounds hx with hx|rfl
     ·exact hc.tmps x hx
     ·exact hv
  | code c=>exact hc
  | inBlock _=>exact hc
  | inLoop _=>exact hc
  | _=>exact hx.elim
theorem step_ret {main:Bool}{fn:FuncId}{tmps:Array Value}{todo:List Item}{c:Frame}{cs cb bs:List Frame}
  (h0:FOk P S F (⟨fn,tmps,todo,[],.returning,.normal,none⟩:Frame)) (hc:∀x,x∈c::cs→FOk P S F x) (hV:Sim S F f V W) {g1:Goroutine} {es:Array Event} (hP:Fns P F)
  (hs:stepG P true (G ⟨fn,tmps,todo,[],.returning,.normal,none⟩ ((c::cs)++cb)) V = .go g1 V1 es)
  (ha:∀j q,V.drawn≤j→j<V1.drawn→V.tape j q=W.tape (W.drawn+(j-V.drawn)) q):Goes1 P S F f main V V1 W ⟨fn,tmps,todo,[],.returning,.normal,none⟩ (c::cs) cb bs g1 es:=by
 have _e:=hP
 obtain⟨fv,h1,h2,h3⟩:=h0.fn.1
 have hsr:=sr_results (P:=P) (S:=S) (F:=F) (f:=f) fv h0.tmps
 have hcc:=hc c (by simp)
 have hcs:∀x,x∈cs→FOk P S F x:=fun x hx=>hc x (by simp[hx])
 cases hr:(results fv tmps).runT P V #[]with
 | mk r E=>
  cases r with
  | halt x V'=>
   exfalso
   simp only[G,stepG,unwind,h1,hr]at hs
   cases x<;>simp[GStep.after]at hs
  | ok v V'=>
   simp only[G,stepG,unwind,h1,hr]at hs
   simp[GStep.after,doReturn]at hs
   obtain⟨rfl,rfl,rfl⟩:=hs
   obtain⟨n',W',E',e1,h5,h6,h7,h8,h9⟩:=hsr.run hV hr ha
   obtain⟨hv,rfl⟩:=h6
   have e1:E=E':=by simpa using e1
   subst e1
   refine⟨_,cs,W',rfl,ret_ok hcc hv,hcs,?_,h7,h8,fun e he=>h9 e (seen_sub P fn E e he)⟩
   rw[←ret_rn hcc]
   simp only[List.map_cons,List.cons_append,G,rnF,stepG,unwind,h1]
   have h5':=h5 #[]
   rw[h5']
   simp[GStep.after,doReturn,seen_rn]
theorem step_all {main:Bool}(hG:GOk P S F)(hP:Fns P F){fr:Frame}{cs cb bs:List Frame}(h0:FOk P S F fr)(hc:∀c, c∈cs→FOk P S F c)(hV:Sim S F f V W)(hr:fr.mode = .returning→cs≠[])
  {g1:Goroutine} {es:Array Event} (hs:stepG P true (G fr (cs++cb)) V = .go g1 V1 es) (hnp:∀ch,g1.frame.mode ≠ .panicking ch)
  (ha:∀j q,V.drawn≤j→j<V1.drawn→V.tape j q=W.tape (W.drawn+(j-V.drawn)) q):Goes1 P S F f main V V1 W fr cs cb bs g1 es:=by
 obtain⟨fn,tmps,todo,defers,mode,kind,round⟩:=fr
 have e2:defers=[]:=h0.defers
 have e3:kind = .normal:=h0.kind
 have e4:round=none:=h0.round
 subst e2 e3 e4
 rcases h0.mode with e1|e1
 ·have e1:mode = .run:=e1
  subst e1
  by_cases hA:∃id ops d k,todo = .code (.region id ops d)::k
  ·obtain⟨id,ops,d,k,rfl⟩:=hA
   exact step_open h0 hc hV hs ha
  ·by_cases hB:∃ops l k,todo = .inRegion ops l::k
   ·obtain⟨ops,l,k,rfl⟩:=hB
    cases l with
    | nil=>
     simp only[G,stepG,stepG.exec,GStep.go.injEq]at hs
     obtain⟨rfl,rfl,rfl⟩:=hs
     exact goes_still hV hc ⟨h0.fn,h0.tmps,fun i hi=>h0.todo i (by simp[hi]),rfl,rfl,rfl,Or.inl rfl⟩ (by simp[G,rnF,stepG,stepG.exec])
    | cons i rest=>exact step_oper hG hP h0 hc hV hs hnp ha
   ·exact step_control h0 rfl hc hV hs (fun id ops d k e=>hA ⟨id,ops,d,k,e⟩) (fun ops l k e=>hB ⟨ops,l,k,e⟩)
 ·have e1:mode = .returning:=e1
  subst e1
  cases cs with
  | nil=>exact absurd rfl (hr rfl)
  | cons c cs=>exact step_ret h0 hc hV hP hs ha
end
end
section
open Go.Conc (G)
def rtp(V:World)(T:Tape)(d:Nat):World:={ V with tape:=T,drawn:=d }
def Agr(V V':World)(T:Tape)(d:Nat):Prop:=∀i q,V.drawn≤i→i<V'.drawn→V.tape i q=T (d+(i-V.drawn)) q
section
variable {P:Program}{S:Nat→Prop}{F:Fx}{f:Nat→Nat}{α:Type}{R:α→α→Prop}{V V' V1 W:World}{T:Tape}{d:Nat}
theorem rtp_self(V:World):rtp V V.tape V.drawn=V:=rfl
theorem rtp_rtp(V:World)(T T':Tape)(d d':Nat):rtp (rtp V T d) T' d'=rtp V T' d':=rfl
theorem SR.tape {s s':Sem α}(h:SR P S F f R s s')(hV:Cl S F V){es es1:Array Event}{a:α}(hr:s.runT P V es=(.ok a V', es1))(hT:Agr V V' T d) :
  s.runT P (rtp V T d) es=(.ok a (rtp V' T (d+(V'.drawn-V.drawn))),es1)∧V'.tape=V.tape:=by
 induction s generalizing s' V es d with
 | pure x=>
  simp only[Sem.runT,Prod.mk.injEq,Result.ok.injEq]at hr
  obtain⟨⟨rfl,rfl⟩,rfl⟩:=hr
  exact⟨by simp[Sem.runT],rfl⟩
 | load m x c ih=>
  rcases h with h|⟨c',rfl,hm,hs,hc⟩
  ·exact(h.no hr).elim
  ·obtain⟨v,hv,hr⟩:=runT_load_ok (hV.noView hs.1) hr
   have:=ih v (hc v (hV.ok_cell hs.1 hv)) hV hr hT
   refine⟨?_,this.2⟩
   rw[runT_load_eq (show(rtp V T d).cell? x=some v from hv)]
   exact this.1
 | store m x v c ih=>
  rcases h with h|⟨c',rfl,hm,hs,hv,hc⟩
  ·exact(h.no hr).elim
  ·obtain⟨h1,old,ho,hf,hr⟩:=runT_store_ok (hV.noView hs.1) hr
   have:=ih hc (hV.setCell hv) hr hT
   refine⟨?_,this.2⟩
   rw[runT_store_eq h1 (show(rtp V T d).cell? x=some old from ho) (show(rtp V T d).frozen? x=false from hf)]
   exact this.1
 | new o c ih=>
  rcases h with h|⟨c',rfl,ho,hc⟩
  ·exact(h.no hr).elim
  ·simp only[Sem.runT]at hr
   have hn:=hV.nxt _ (Nat.le_refl _)
   have:=ih _ (hc _ hn.1 hn.2) (hV.push ho) hr hT
   exact⟨by simp only[Sem.runT];exact this.1,this.2⟩
 | shape r c ih=>
  rcases h with h|⟨c',rfl,hs,hc⟩
  ·exact(h.no hr).elim
  ·simp only[Sem.runT]at hr
   have:=ih _ (hc _ _ (hV.shr r)) hV hr hT
   exact⟨by simp only[Sem.runT];exact this.1,this.2⟩
 | getObj r c ih=>
  rcases h with h|⟨c',rfl,hs,hc⟩
  ·exact(h.no hr).elim
  ·obtain⟨o,ho,hn,hr⟩:=runT_get_ok hr
   obtain⟨o',ho',hk⟩:=hV.blk r hs (lt_of_some ho)
   rw[ho]at ho';cases ho'
   have:=ih _ (hc _ hk) hV hr hT
   refine⟨?_,this.2⟩
   rw[runT_get_eq (show(rtp V T d).heap[r]?=some o from ho) hn]
   exact this.1
 | choose q c ih=>
  rcases h with h|⟨c',rfl,hc⟩
  ·exact(h.no hr).elim
  ·simp only[Sem.runT]at hr
   split at hr
   ·rename_i hq
    have:=ih _ (hc _) hV hr hT
    exact⟨by simp only[Sem.runT,hq,if_true];exact this.1,this.2⟩
   ·rename_i hq
    have hd:=SR.draws (hc _) (hV.drew _) hr
    have hd:V.drawn+1≤V'.drawn:=hd
    have e0:V.tape V.drawn q=T d q:=by
     have:=hT V.drawn q (Nat.le_refl _) (by omega)
     simpa using this
    have:=ih (d:=d+1) _ (hc _) (hV.drew _) hr (fun i q h1 h2=>by
     have h1:V.drawn+1≤i:=h1
     show V.tape i q=T (d+1+(i-(V.drawn+1))) q
     rw[hT i q (by omega) h2]
     congr 1
     omega)
    refine⟨?_,this.2⟩
    have e1:d+1+(V'.drawn-(V.drawn+1))=d+(V'.drawn-V.drawn):=by omega
    have t1:=this.1
    have e2:({ V with drawn:=V.drawn+1 }:World).drawn=V.drawn+1:=rfl
    rw[e2,e1]at t1
    simp only[Sem.runT,hq]
    rw[←t1,e0]
    rfl
 | program c ih=>
  rcases h with h|⟨c',rfl,hc⟩
  ·exact(h.no hr).elim
  ·simp only[Sem.runT]at hr
   have:=ih _ hc hV hr hT
   exact⟨by simp only[Sem.runT];exact this.1,this.2⟩
 | mark m c ih=>
  rcases h with h|⟨c',rfl,hb,hc⟩
  ·exact(h.no hr).elim
  ·simp only[Sem.runT]at hr
   have:=ih hc hV hr hT
   exact⟨by simp only[Sem.runT];exact this.1,this.2⟩
 | freeze a n c _=>exact(Dead.no (s:= .freeze a n c) h hr).elim
 | frozen a c _=>exact(Dead.no (s:= .frozen a c) h hr).elim
 | setObj r o c _=>exact(Dead.no (s:= .setObj r o c) h hr).elim
 | sys c k2 _=>exact(Dead.no (s:= .sys c k2) h hr).elim
 | halt x=>simp[Sem.runT]at hr
theorem rnO_id {o:Obj}(h:OOk S F o):rnO id o=o:=by
 cases o with
 | cells c t z=>
  show Obj.cells (c.map (rnV id)) t z=_
  congr 1
  exact(Array.map_congr_left fun v hv=>rnV_id (h v hv)).trans (Array.map_id' _)
 | number a l=>rfl
 | _=>exact h.elim
theorem Sim.refl(hV:Cl S F V):Sim S F id V V:=by
 refine⟨hV,fun b o hb ho=>?_,fun _ _ _ _ h=>h,fun b hb=>by show b=_;omega⟩
 obtain⟨o',ho',hk⟩:=hV.blk b hb (lt_of_some ho)
 rw[ho]at ho';cases ho'
 exact⟨o,ho,by have:=alike_rn (f:=id) hk b;rwa [rnO_id hk]at this⟩
def Tap1(P:Program)(T:Tape)(d:Nat)(V V1:World)(g g1:Goroutine)(es:Array Event):Prop:=
 stepG P true g (rtp V T d) = .go g1 (rtp V1 T (d+(V1.drawn-V.drawn))) es∧V1.tape=V.tape∧V.drawn≤V1.drawn
theorem tap_still {g g1:Goroutine}(h:stepG P true g (rtp V T d) = .go g1 (rtp V T d)):Tap1 P T d V V g g1 #[]:=⟨by rw[Nat.sub_self];exact h,rfl,Nat.le_refl _⟩
theorem tap_control {fr:Frame}{cs:List Frame}(h0:FOk P S F fr)(hm:fr.mode = .run){g1:Goroutine}{es:Array Event}
  (hs:stepG P true (G fr cs) V = .go g1 V1 es) (hno:∀id ops k,fr.todo ≠ .code (.region id ops true)::k) (hno2:∀ops i l k,fr.todo ≠ .inRegion ops (i::l)::k):Tap1 P T d V V1 (G fr cs) g1 es:=by
 obtain⟨fn,tmps,todo,defers,mode,kind,round⟩:=fr
 have e1:mode = .run:=hm
 have e2:defers=[]:=h0.defers
 have e3:kind = .normal:=h0.kind
 have e4:round=none:=h0.round
 subst e1 e2 e3 e4
 have ht:=h0.todo
 cases todo with
 | nil=>
  simp only[G,stepG,stepG.exec]at hs
  obtain⟨rfl,rfl,rfl⟩:=hs
  exact tap_still (by simp[G,stepG,stepG.exec])
 | cons x k=>
  have hx:=ht x (by simp)
  cases x with
  | code c=>
   cases c with
   | ret=>
    simp only[G,stepG,stepG.exec]at hs
    obtain⟨rfl,rfl,rfl⟩:=hs
    exact tap_still (by simp[G,stepG,stepG.exec])
   |skip|seq a b|block id b|loop b=>
    simp only[G,stepG,stepG.exec,GStep.go.injEq]at hs
    obtain⟨rfl,rfl,rfl⟩:=hs
    exact tap_still (by simp[G,stepG,stepG.exec])
   | region id ops d=>
    cases d with
    | true=>exact absurd rfl (hno id ops k)
    | false=>
     simp only[G,stepG,stepG.exec,Bool.not_false,if_true,GStep.go.injEq]at hs
     obtain⟨rfl,rfl,rfl⟩:=hs
     exact tap_still (by simp[G,stepG,stepG.exec])
   | cond c a b=>
    simp only[G,stepG,stepG.exec]at hs
    cases hb:(Frame.eval ⟨fn,tmps,.code (.cond c a b)::k,[],.run,.normal,none⟩ c)with
    | bool t=>
     rw[hb]at hs
     simp only[GStep.go.injEq]at hs
     obtain⟨rfl,rfl,rfl⟩:=hs
     exact tap_still (by simp[G,stepG,stepG.exec,hb])
    | _=>rw[hb]at hs;cases hs
   | exit id=>
    simp only[G,stepG,stepG.exec]at hs
    cases he:exitTo id k with
    | none=>rw[he]at hs;cases hs
    | some k'=>
     rw[he]at hs
     simp only[Option.elim_some,GStep.go.injEq]at hs
     obtain⟨rfl,rfl,rfl⟩:=hs
     exact tap_still (by simp[G,stepG,stepG.exec,he])
   | _=>exact hx.elim
  | inBlock id=>
   simp only[G,stepG,stepG.exec,GStep.go.injEq]at hs
   obtain⟨rfl,rfl,rfl⟩:=hs
   exact tap_still (by simp[G,stepG,stepG.exec])
  | inLoop b=>
   simp only[G,stepG,stepG.exec,GStep.go.injEq]at hs
   obtain⟨rfl,rfl,rfl⟩:=hs
   exact tap_still (by simp[G,stepG,stepG.exec])
  | inRegion ops l=>
   cases l with
   | nil=>
    simp only[G,stepG,stepG.exec,GStep.go.injEq]at hs
    obtain⟨rfl,rfl,rfl⟩:=hs
    exact tap_still (by simp[G,stepG,stepG.exec])
   | cons i l=>exact absurd rfl (hno2 ops i l k)
  | _=>exact hx.elim
theorem tap_oper(hG:GOk P S F)(hP:Fns P F){fn:FuncId}{tmps:Array Value}{ops:Array Oper}{i:Nat}{rest:List Nat}{k:List Item}{cs:List Frame}
  (h0:FOk P S F (⟨fn,tmps,.inRegion ops (i::rest)::k,[],.run,.normal,none⟩:Frame)) (hV:Cl S F V) {g1:Goroutine} {es:Array Event}
  (hs:stepG P true (G ⟨fn,tmps,.inRegion ops (i::rest)::k,[],.run,.normal,none⟩ cs) V = .go g1 V1 es) (hnp:∀ch,g1.frame.mode ≠ .panicking ch)
  (hT:Agr V V1 T d):Tap1 P T d V V1 (G ⟨fn,tmps,.inRegion ops (i::rest)::k,[],.run,.normal,none⟩ cs) g1 es:=by
 by_cases hw:(Option.map (fun x=>Region.wanted x (yielded ops tmps)) ops[i]?).getD false=true
 ·cases ho:ops[i]? with
  | none=>rw[ho]at hw;cases hw
  | some o=>
   have hw1:Region.wanted o (yielded ops tmps)=true:=by rw[ho]at hw;exact hw
   have hst:∀(w:World),stepG P true (G ⟨fn,tmps,.inRegion ops (i::rest)::k,[],.run,.normal,none⟩ cs) w=stepG.apply P true ⟨fn,tmps,.inRegion ops (i::rest)::k,[],.run,.normal,none⟩ cs none (execOp (Frame.eval ⟨fn,tmps,.inRegion ops (i::rest)::k,[],.run,.normal,none⟩) o) w:=by
    intro w
    simp[G,stepG,stepG.exec,stepG.oper,Frame.oper?,ho,hw1]
   rw[hst]at hs
   have hop:TOp P F o.op:=h0.todo (.inRegion ops (i::rest)) (by simp) o (Array.mem_of_getElem? ho)
   have hsr:=sr_exec (P:=P) (S:=S) (F:=F) (f:=id) hG hP.enter (ev:=Frame.eval ⟨fn,tmps,.inRegion ops (i::rest)::k,[],.run,.normal,none⟩) (ev':=(rnF id ⟨fn,tmps,.inRegion ops (i::rest)::k,[],.run,.normal,none⟩).eval) (fun x hx=>eval_ok h0.tmps x hx) (fun v=>rfl) (o:=o) hop
   unfold stepG.apply at hs
   cases hr:(execOp (Frame.eval ⟨fn,tmps,.inRegion ops (i::rest)::k,[],.run,.normal,none⟩) o).runT P V #[]with
   | mk r E=>
    rw[hr]at hs
    cases r with
    | halt x V'=>
     have hk:=hsr.halts hV hr
     cases x with
     | panic v=>
      simp[GStep.after]at hs
      obtain⟨rfl,_,_⟩:=hs
      exact absurd rfl (hnp _)
     | stuck m=>simp[GStep.after]at hs
     | unsupported u=>cases u<;>first|(simp[GStep.after]at hs;done)|exact absurd rfl (hk _)
     | _=>exact hk.elim
    | ok n V'=>
     have hdr:=hsr.draws hV hr
     cases n with
     | value v=>
      simp[GStep.after]at hs
      obtain⟨rfl,rfl,rfl⟩:=hs
      have ht:=hsr.tape hV hr hT
      refine⟨?_,ht.2,hdr⟩
      rw[hst]
      unfold stepG.apply
      rw[ht.1]
      simp[GStep.after]
     | skip=>
      simp[GStep.after]at hs
      obtain⟨rfl,rfl,rfl⟩:=hs
      have ht:=hsr.tape hV hr hT
      refine⟨?_,ht.2,hdr⟩
      rw[hst]
      unfold stepG.apply
      rw[ht.1]
      simp[GStep.after]
     | enter g args=>
      simp[GStep.after]at hs
      obtain⟨rfl,rfl,rfl⟩:=hs
      have ht:=hsr.tape hV hr hT
      refine⟨?_,ht.2,hdr⟩
      rw[hst]
      unfold stepG.apply
      rw[ht.1]
      simp[GStep.after]
     | _=>
      exfalso
      obtain⟨n',W',E',e1,h2,h3,h4,h5,h6⟩:=hsr.run (V':=V') (W:=V) (Sim.refl hV) hr (fun j q h1 h2=>by congr 1;omega)
      exact h3.elim
 ·have hw1:(Option.map (fun x=>Region.wanted x (yielded ops tmps)) ops[i]?).getD false=false:=by simpa using hw
  simp[G,stepG,stepG.exec,hw1]at hs
  obtain⟨rfl,rfl,rfl⟩:=hs
  exact tap_still (by simp[G,stepG,stepG.exec,hw1])
theorem tap_all(hG:GOk P S F)(hP:Fns P F){fr:Frame}{cs cb:List Frame}(h0:FOk P S F fr)(hV:Cl S F V)(hr:fr.mode = .returning→cs≠[])
  {g1:Goroutine} {es:Array Event} (hs:stepG P true (G fr (cs++cb)) V = .go g1 V1 es) (hnp:∀ch,g1.frame.mode ≠ .panicking ch)
  (hT:Agr V V1 T d):Tap1 P T d V V1 (G fr (cs++cb)) g1 es:=by
 obtain⟨fn,tmps,todo,defers,mode,kind,round⟩:=fr
 have e2:defers=[]:=h0.defers
 have e3:kind = .normal:=h0.kind
 have e4:round=none:=h0.round
 subst e2 e3 e4
 rcases h0.mode with e1|e1
 ·have e1:mode = .run:=e1
  subst e1
  by_cases hA:∃id ops k,todo = .code (.region id ops true)::k
  ·obtain⟨id,ops,k,rfl⟩:=hA
   simp[G,stepG,stepG.exec,choose,Sem.run,Question.forced,Question.cut]at hs
   obtain⟨rfl,rfl,rfl⟩:=hs
   have e0:V.tape V.drawn (.order fn id)=T d (.order fn id):=by
    have:=hT V.drawn (.order fn id) (Nat.le_refl _) (by show V.drawn<V.drawn+1;omega)
    simpa using this
   refine⟨?_,rfl,by show V.drawn≤V.drawn+1;omega⟩
   first
   |(simp[G,stepG,stepG.exec,choose,Sem.run,Question.forced,Question.cut,rtp,e0];done)
   |(simp[G,stepG,stepG.exec,choose,Sem.run,Question.forced,Question.cut,rtp,e0];exact⟨rfl,rfl,rfl⟩)
  ·by_cases hB:∃ops i l k,todo = .inRegion ops (i::l)::k
   ·obtain⟨ops,i,rest,k,rfl⟩:=hB
    exact tap_oper hG hP h0 hV hs hnp hT
   ·exact tap_control h0 rfl hs (fun id ops k e=>hA ⟨id,ops,k,e⟩) (fun ops i l k e=>hB ⟨ops,i,l,k,e⟩)
 ·have e1:mode = .returning:=e1
  subst e1
  cases cs with
  | nil=>exact absurd rfl (hr rfl)
  | cons c cs=>
   obtain⟨fv,h1,h2,h3⟩:=h0.fn.1
   have hsr:=sr_results (P:=P) (S:=S) (F:=F) (f:=id) fv h0.tmps
   cases hr:(results fv tmps).runT P V #[]with
   | mk r E=>
    cases r with
    | halt x V'=>
     exfalso
     simp only[G,stepG,unwind,h1,hr]at hs
     cases x<;>simp[GStep.after]at hs
    | ok v V'=>
     simp only[G,stepG,unwind,h1,hr]at hs
     simp[GStep.after,doReturn]at hs
     obtain⟨rfl,rfl,rfl⟩:=hs
     have ht:=hsr.tape hV hr hT
     refine⟨?_,ht.2,hsr.draws hV hr⟩
     simp only[List.cons_append,G,stepG,unwind,h1]
     rw[ht.1]
     simp[GStep.after,doReturn]
end
end
end Go.Proofs.YtedifobeggabnaaGreat
