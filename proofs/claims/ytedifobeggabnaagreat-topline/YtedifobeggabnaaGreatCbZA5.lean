/- Texts of ours, one behind the other: ZA5 ZA6 ZA7 ZA8 ZA9 ZB1. -/
import Derived.Test.YtedifobeggabnaaGreatCbZA1
import Derived.Laws.Sem
namespace Go.Proofs.YtedifobeggabnaaGreat
section
section
variable {P:Program}{S:Nat→Prop}{F:Fx}{f:Nat→Nat}{α β:Type}{R:α→α→Prop}
theorem sl_ok {a:Option Addr}{n c:Nat}(h:VOk S F (.slice a n c)):∀x,a=some x→AOk S F x:=by rw[VOk]at h;exact h
theorem rn_slice(a:Option Addr)(n c:Nat):rnV f (.slice a n c) = .slice (a.map (rnA f)) n c:=by rw[rnV]
theorem ok_slice {a:Option Addr}{n c:Nat}(h:∀x,a=some x→AOk S F x):VOk S F (.slice a n c):=by rw[VOk];exact h
theorem sr_indexAt(t:TypeId){x i:Value}(hx:VOk S F x)(hi:VOk S F i):SR P S F f (VR S F f) (Instr.indexAt t x i) (Instr.indexAt t (rnV f x) (rnV f i)):=by
 unfold Instr.indexAt
 refine SR.bind' (sr_intOf hi) ?_
 rintro ki _ rfl
 obtain⟨k,i⟩:=ki
 dsimp (config:={ zeta:=false }) only
 extract_lets jp
 have hk:∀b:Option Addr×Nat×TypeId,(∀y,b.1=some y→AOk S F y)→SR P S F f (VR S F f) (jp b) (jp (b.1.map (rnA f),b.2)):=by
  rintro⟨base,len,elem⟩ hb
  refine SR.bind' (sr_under t) ?_
  rintro d _ ⟨rfl,_⟩
  cases base with
  | none=>exact SR.dead (dead_bounds _ _ _ _)
  | some a=>
   have ha:AOk S F a:=hb a rfl
   show SR P S F f _ (if _ then _ else _) (if _ then _ else _)
   split
   ·refine SR.bind' (sr_size elem) ?_
    rintro n _ rfl
    exact SR.ret ⟨ok_ptr (ha.add _),by rw[rn_ptr,add_rn]⟩
   ·apply SR.dead
    have hd:∀(b:Bool) (u:Unsupported),(∀g,u ≠ .initOrder g)→Dead P (if b=true then(unsupported u:Sem Value)else boundsPanic k i len .index):=by
     intro b u hu
     cases b
     ·exact dead_bounds _ _ _ _
     ·exact dead_unsup _ hu
    exact hd _ _ (fun g h=>by cases h)
 clear_value jp
 refine SR.bind' (sr_under t) ?_
 rintro d _ ⟨rfl,_⟩
 cases d with
 | array len elem=>
  refine SR.bind' (sr_sure hx) ?_
  rintro a _ ⟨ha,rfl⟩
  exact hk (some a,len,elem) (fun y e=>by cases e;exact ha)
 | slice elem=>
  cases x with
  | slice a n c=>rw[rn_slice];exact hk (a,n,elem) (sl_ok hx)
  | _=>exact SR.dead (dead_bind (dead_stuck _) _)
 | _=>exact SR.dead (dead_bind (dead_stuck _) _)
theorem sr_bound {x:Value}(hx:VOk S F x)(y:Nat)(c:BoundsCode):SR P S F f (fun a a'=>a=a') (Instr.sliceBound x y c) (Instr.sliceBound (rnV f x) y c):=by
 unfold Instr.sliceBound
 refine SR.bind' (sr_intOf hx) ?_
 rintro ki _ rfl
 obtain⟨k,i⟩:=ki
 show SR P S F f _ (if _ then _ else _) (if _ then _ else _)
 split
 ·exact SR.ret rfl
 ·exact SR.dead (dead_bounds _ _ _ _)
theorem sr_bounds(b:Bool)(n c:Nat){lo hi mx:Option Value}(hl:∀x, lo=some x→VOk S F x)(hh:∀x, hi=some x→VOk S F x)(hm:∀x, mx=some x→VOk S F x) :
  SR P S F f (fun a a'=>a=a') (Instr.sliceBounds b n c lo hi mx) (Instr.sliceBounds b n c (lo.map (rnV f)) (hi.map (rnV f)) (mx.map (rnV f))):=by
 unfold Instr.sliceBounds
 have em:(mx.map (rnV f)).isSome=mx.isSome:=by cases mx<;>rfl
 rw[em]
 extract_lets jp jp'
 have hk:∀m,SR P S F f (fun a a'=>a=a') (jp m) (jp' m):=by
  intro m
  dsimp (config:={ zeta:=false }) only[jp,jp']
  clear jp jp'
  extract_lets ja ja'
  have hka:∀h,SR P S F f (fun a a'=>a=a') (ja h) (ja' h):=by
   intro h
   cases lo with
   | none=>exact SR.ret rfl
   | some v=>
    refine SR.bind' (sr_bound (hl v rfl) _ _) ?_
    rintro l _ rfl
    exact SR.ret rfl
  clear_value ja ja'
  cases hi with
  | none=>
   cases mx with
   | none=>exact hka n
   | some v=>exact SR.dead (dead_bind (dead_stuck _) _)
  | some v=>
   cases mx with
   | none=>
    refine SR.bind' (sr_bound (hh v rfl) _ _) ?_
    rintro h _ rfl
    exact hka h
   | some v2=>
    refine SR.bind' (sr_bound (hh v rfl) _ _) ?_
    rintro h _ rfl
    exact hka h
 clear_value jp jp'
 cases mx with
 | none=>exact hk c
 | some v=>
  refine SR.bind' (sr_bound (hm v rfl) _ _) ?_
  rintro m _ rfl
  exact hk m
theorem rn_if(c:Prop)[Decidable c](a b:Addr):rnA f (if c then a else b)=if c then rnA f a else rnA f b:=by split<;>rfl
theorem sr_slice(t:TypeId){x:Value}(hx:VOk S F x){lo hi mx:Option Value}(hl:∀x, lo=some x→VOk S F x)(hh:∀x, hi=some x→VOk S F x)(hm:∀x, mx=some x→VOk S F x) :
  SR P S F f (VR S F f) (Instr.slice t x lo hi mx) (Instr.slice t (rnV f x) (lo.map (rnV f)) (hi.map (rnV f)) (mx.map (rnV f))):=by
 unfold Instr.slice
 refine SR.bind' (sr_under t) ?_
 rintro d _ ⟨rfl,_⟩
 cases d with
 | string=>cases x<;>first|exact SR.dead (dead_stuck _)|(simp[VOk]at hx)
 | slice elem=>
  cases x with
  | slice a n c=>
   rw[rn_slice]
   refine SR.bind' (sr_bounds true n c hl hh hm) ?_
   rintro r _ rfl
   obtain⟨l,h,m⟩:=r
   refine SR.bind' (sr_size elem) ?_
   rintro z _ rfl
   have ha:=sl_ok hx
   cases a with
   | none=>exact SR.ret ⟨ok_slice (fun y e=>by split at e<;>cases e),by rw[rn_slice];split<;>rfl⟩
   | some a=>
    refine SR.ret ⟨ok_slice (fun y e=>?_),?_⟩
    ·split at e<;>cases e
     ·exact ha a rfl
     ·exact(ha a rfl).add _
    ·rw[rn_slice]
     split
     ·rfl
     ·simp[add_rn]
  | _=>exact SR.dead (dead_stuck _)
 | pointer arr=>
  have hsx:SR P S F f (AR S F f) (asAddr x) (asAddr (rnV f x)):=by
   cases x with
   | pointer a=>
    cases a with
    | none=>exact SR.dead (dead_panic .nilDeref)
    | some a=>rw[rn_ptr];rw[VOk]at hx;exact SR.ret ⟨hx a rfl,rfl⟩
   | _=>exact SR.dead (dead_stuck _)
  refine SR.bind' hsx ?_
  rintro a _ ⟨ha,rfl⟩
  refine SR.bind' (sr_under arr) ?_
  rintro d _ ⟨rfl,_⟩
  cases d with
  | array n elem=>
   refine SR.bind' (sr_bounds false n n hl hh hm) ?_
   rintro r _ rfl
   obtain⟨l,h,m⟩:=r
   refine SR.bind' (sr_size elem) ?_
   rintro z _ rfl
   refine SR.ret ⟨ok_sl (by split<;>first|exact ha|(exact ha.add _)),?_⟩
   rw[rn_sl,rn_if,add_rn]
  | _=>exact SR.dead (dead_stuck _)
 | _=>exact SR.dead (dead_stuck _)
theorem sr_sliceAt(t:TypeId){x:Value}(hx:VOk S F x){lo hi mx:Option Value}(hl:∀x, lo=some x→VOk S F x)(hh:∀x, hi=some x→VOk S F x)(hm:∀x, mx=some x→VOk S F x) :
  SR P S F f (VR S F f) (Instr.sliceAt t x lo hi mx) (Instr.sliceAt t (rnV f x) (lo.map (rnV f)) (hi.map (rnV f)) (mx.map (rnV f))):=by
 unfold Instr.sliceAt
 refine SR.bind' (sr_under t) ?_
 rintro d _ ⟨rfl,_⟩
 cases d with
 | array n elem=>
  refine SR.bind' (sr_sure hx) ?_
  rintro a _ ⟨ha,rfl⟩
  refine SR.bind' (sr_bounds false n n hl hh hm) ?_
  rintro r _ rfl
  obtain⟨l,h,m⟩:=r
  refine SR.bind' (sr_size elem) ?_
  rintro z _ rfl
  refine SR.ret ⟨ok_sl (by split<;>first|exact ha|(exact ha.add _)),?_⟩
  rw[rn_sl,rn_if,add_rn]
 | _=>exact sr_slice t hx hl hh hm
theorem sr_alloc {t:TypeId}(hz:BZ P t):SR P S F f (VR S F f) (Instr.alloc t true (.tuple #[])) (Instr.alloc t true (.tuple #[])):=by
 unfold Instr.alloc
 refine SR.bind' (sr_zero hz) ?_
 rintro v _ ⟨rfl,hv⟩
 have h:=sr_var (P:=P) (f:=f) t (hv.ok S F)
 rw[hv.rn]at h
 refine SR.bind' h ?_
 rintro a _ ⟨ha,rfl⟩
 exact SR.ret ⟨ok_ptr ha,(rn_ptr a).symm⟩
theorem sr_box(t:TypeId){v:Value}(hv:VOk S F v):SR P S F f (VR S F f) (Instr.box t v) (Instr.box t (rnV f v)):=by
 unfold Instr.box
 refine SR.bind' (sr_var t hv) ?_
 rintro a _ ⟨ha,rfl⟩
 exact SR.ret ⟨ok_ptr ha,(rn_ptr a).symm⟩
theorem sr_loadAt(t:TypeId){v:Value}(hv:VOk S F v):SR P S F f (VR S F f) (Instr.loadAt t v) (Instr.loadAt t (rnV f v)):=by
 unfold Instr.loadAt
 refine SR.bind' (sr_sure hv) ?_
 rintro a _ ⟨ha,rfl⟩
 exact sr_loadVar t ha
theorem sr_storeAt(t:TypeId){v x:Value}(hv:VOk S F v)(hx:VOk S F x):SR P S F f (fun _ _=>True) (Instr.storeAt t v x) (Instr.storeAt t (rnV f v) (rnV f x)):=by
 unfold Instr.storeAt
 refine SR.bind' (sr_sure hv) ?_
 rintro a _ ⟨ha,rfl⟩
 exact sr_storeVar t ha hx
theorem sr_extract {v:Value}(hv:VOk S F v)(i:Nat):SR P S F f (VR S F f) (Instr.extract v i) (Instr.extract (rnV f v) i):=by
 unfold Instr.extract
 cases v with
 | tuple vs=>
  rw[rnV]
  show SR P S F f _ (match vs[i]? with|some v=>_|none=>_) (match(vs.map (rnV f))[i]? with|some v=>_|none=>_)
  rw[VOk]at hv
  cases h:vs[i]? with
  | none=>exact SR.dead (dead_stuck _)
  | some x=>simp only[Array.getElem?_map,h,Option.map_some];exact SR.ret ⟨hv x (Array.mem_of_getElem? h),rfl⟩
 | _=>exact SR.dead (dead_stuck _)
end
end
section
section
variable {P:Program}{S:Nat→Prop}{F:Fx}{f:Nat→Nat}{α β:Type}{R:α→α→Prop}
theorem set_row(off:Nat)(r:Value→Value):∀(l:List (Value×Nat)) (c:Array Value),(l.foldl (fun cs (x:Value×Nat)=>cs.setIfInBounds (off+x.2) x.1) c).map r=(l.map fun x=>(r x.1,x.2)).foldl (fun cs (x:Value×Nat)=>cs.setIfInBounds (off+x.2) x.1) (c.map r):=by
 intro l
 induction l with
 | nil=>intro c;rfl
 | cons x l ih=>intro c;simp only[List.foldl_cons,List.map_cons];rw[ih,Array.map_setIfInBounds]
theorem set_row_ok(off:Nat){Q:Value→Prop}:∀(l:List (Value×Nat)) (c:Array Value),(∀x,x∈l→Q x.1)→(∀v,v∈c→Q v)→∀v,v∈l.foldl (fun cs (x:Value×Nat)=>cs.setIfInBounds (off+x.2) x.1) c→Q v:=by
 intro l
 induction l with
 | nil=>intro c _ hc v hv;exact hc v hv
 | cons x l ih=>
  intro c hl hc
  refine ih _ (fun y hy=>hl y (by simp[hy])) fun v hv=>?_
  rcases Array.mem_or_eq_of_mem_setIfInBounds hv with hv|rfl
  ·exact hc v hv
  ·exact hl x (by simp)
theorem fill_rn(place:Nat→Option (Nat×Nat)):∀(l:List (Nat×Value)) (c:Array Value), (∀p, p∈l→VOk S F p.2)→(∀v, v∈c→VOk S F v)→
  Instr.fill place (c.map (rnV f)) (l.map fun p=>(p.1,rnV f p.2))=(Instr.fill place c l).map (fun c=>c.map (rnV f))∧∀c',Instr.fill place c l=some c'→∀v,v∈c'→VOk S F v:=by
 intro l
 induction l with
 | nil=>intro c _ hc;exact⟨rfl,fun c' e=>by cases e;exact hc⟩
 | cons p l ih=>
  intro c hl hc
  obtain⟨i,x⟩:=p
  have hx:VOk S F x:=hl (i,x) (by simp)
  simp only[List.map_cons,Instr.fill]
  cases hp:place i with
  | none=>exact⟨rfl,fun c' e=>by cases e⟩
  | some os=>
   obtain⟨off,size⟩:=os
   simp only[cells_rn f hx,Array.size_map]
   split
   ·exact⟨rfl,fun c' e=>by cases e⟩
   ·have e1:((x.cells.map (rnV f)).zipIdx.foldl (fun cs (y:Value×Nat)=>cs.setIfInBounds (off+y.2) y.1) (c.map (rnV f)))=(x.cells.zipIdx.foldl (fun cs (y:Value×Nat)=>cs.setIfInBounds (off+y.2) y.1) c).map (rnV f):=by
     rw[←Array.foldl_toList, ←Array.foldl_toList,set_row]
     congr 1
     simp[Array.zipIdx_map]
    have hrow:∀v,v∈(x.cells.zipIdx.foldl (fun cs (y:Value×Nat)=>cs.setIfInBounds (off+y.2) y.1) c)→VOk S F v:=by
     rw[←Array.foldl_toList]
     refine set_row_ok off _ _ (fun y hy=>?_) hc
     have:y∈x.cells.zipIdx:=Array.mem_toList_iff.1 hy
     obtain⟨y1,y2⟩:=y
     exact cells_ok hx _ (Array.mem_of_getElem? (Array.mk_mem_zipIdx_iff_getElem?.1 this))
    have:=ih (x.cells.zipIdx.foldl (fun cs (y:Value×Nat)=>cs.setIfInBounds (off+y.2) y.1) c) (fun q hq=>hl q (by simp[hq])) hrow
    rw[←e1]at this
    exact this
theorem nob_cells {v:Value}(h:NoB v):(v.cells.map (rnV f))=v.cells∧∀x,x∈v.cells→VOk S F x:=by
 refine⟨?_,cells_ok (h.ok S F)⟩
 rw[←cells_rn f (h.ok (fun _=>False) noFx),h.rn]
theorem sr_sizes:∀(l:List Field),SR P S F f (fun a a'=>a=a') (l.mapM fun d=>do pure (d.offset, ←sizeOf d.type)) (l.mapM fun d=>do pure (d.offset, ←sizeOf d.type)):=by
 intro l
 induction l with
 | nil=>exact SR.ret rfl
 | cons d l ih=>
  rw[List.mapM_cons]
  refine SR.bind' (R:=fun a a'=>a=a') ?_ ?_
  ·refine SR.bind' (sr_size d.type) ?_
   rintro n _ rfl
   exact SR.ret rfl
  ·rintro x _ rfl
   refine SR.bind' ih ?_
   rintro y _ rfl
   exact SR.ret rfl
theorem sr_build {t : TypeId} (hz : BZ P t) {parts : Array (Nat × Value)} (hp : ∀ p, p ∈ parts → VOk S F p.2) :
   SR P S F f (VR S F f) (Instr.build t parts) (Instr.build t (parts.map fun p=>(p.1,rnV f p.2))):=by
 unfold Instr.build
 refine SR.bind' (sr_zero hz) ?_
 rintro z _ ⟨rfl,hz⟩
 refine SR.bind' (sr_under t) ?_
 rintro d _ ⟨rfl,_⟩
 have hc:=nob_cells (S:=S) (F:=F) (f:=f) hz
 have hl:∀p,p∈parts.toList→VOk S F p.2:=fun p h=>hp p (Array.mem_toList_iff.1 h)
 have hcase : ∀ place, SR P S F f (VR S F f) (match Instr.fill place z.cells parts.toList with | some cells => pure (.agg cells) | none => stuck "x") (match Instr.fill place z.cells (parts.map fun p => (p.1, rnV f p.2)).toList with | some cells => pure (.agg cells) | none => stuck "x") := by
   intro place
   have:=fill_rn (f:=f) place parts.toList z.cells hl hc.2
   rw[hc.1]at this
   rw[Array.toList_map,this.1]
   cases h:Instr.fill place z.cells parts.toList with
   | none=>exact SR.dead (dead_stuck _)
   | some c=>exact SR.ret ⟨ok_agg (this.2 c h),(rn_agg c).symm⟩
 cases d with
 | struct fields=>
   simp only[Array.mapM_eq_mapM_toList]
   refine SR.bind' (R:=fun a a'=>a=a') ?_ ?_
   · show SR P S F f _ (List.toArray <$> _) (List.toArray <$> _)
     rw[←bind_pure_comp]
     refine SR.bind' (sr_sizes _) ?_
     rintro x _ rfl
     exact SR.ret rfl
   · rintro places _ rfl
     have:=hcase (places[·]?)
     revert this
     cases Instr.fill (places[·]?) z.cells parts.toList with
     | none=>intro _;exact SR.dead (dead_stuck _)
     | some c=>
       cases Instr.fill (places[·]?) z.cells (parts.map fun p=>(p.1,rnV f p.2)).toList with
       | none=>rintro⟨a',h,_⟩;cases h
       | some c'=>exact id
 | array n elem=>
   refine SR.bind' (sr_size elem) ?_
   rintro n _ rfl
   have:=hcase (fun i=>some (i*n,n))
   revert this
   cases Instr.fill (fun i=>some (i*n,n)) z.cells parts.toList with
   | none=>intro _;exact SR.dead (dead_stuck _)
   | some c=>
     cases Instr.fill (fun i=>some (i*n,n)) z.cells (parts.map fun p=>(p.1,rnV f p.2)).toList with
     | none=>rintro⟨a',h,_⟩;cases h
     | some c'=>exact id
 | _=>exact SR.dead (dead_stuck _)
theorem zero_at {z:Array Value}(hz:∀x,x∈z→VOk S F x)(h1:z.map (rnV f)=z)(i:Nat):VOk S F (z[i % z.size]!)∧rnV f (z[i % z.size]!)=z[i % z.size]! := by
 by_cases hs:0<z.size
 ·have hl:i % z.size<z.size:=Nat.mod_lt _ hs
  have e:z[i % z.size]! = z[i % z.size]:=by simp[hl]
  rw[e]
  refine⟨hz _ (Array.getElem_mem hl),?_⟩
  have:(z.map (rnV f))[i % z.size]'(by simpa using hl)=rnV f z[i % z.size]:=by simp
  rw[←this]
  simp only[h1]
 ·have e:z = #[]:=Array.eq_empty_of_size_eq_zero (by omega)
  subst e
  have e0:(#[]:Array Value)[i % (#[]:Array Value).size]! = .bool default:=by simp;rfl
  rw[e0]
  exact⟨ok_bool _,rn_bool _⟩
theorem zeros_ok {z:Array Value}(hz:∀x,x∈z→VOk S F x)(h1:z.map (rnV f)=z)(n:Nat):(((Array.range n).map (fun i=>z[i % z.size]!)).map (rnV f)=(Array.range n).map (fun i=>z[i % z.size]!))∧∀x,x∈(Array.range n).map (fun i=>z[i % z.size]!)→VOk S F x:=by
 refine⟨?_,fun x hx=>?_⟩
 ·rw[Array.map_map]
  exact Array.map_congr_left fun i _=>(zero_at hz h1 i).2
 ·obtain⟨i,_,rfl⟩:=Array.mem_map.1 hx
  exact(zero_at hz h1 i).1
theorem sr_buildSlice {t:TypeId}(hz:∀e, P.underlying t=some (.slice e)→BZ P e)(len:Nat){parts:Array (Nat×Value)}(hp:∀p, p∈parts→VOk S F p.2) :
  SR P S F f (VR S F f) (Instr.buildSlice t len parts) (Instr.buildSlice t len (parts.map fun p=>(p.1,rnV f p.2))):=by
 unfold Instr.buildSlice
 refine SR.bind' (sr_under t) ?_
 rintro d _ ⟨rfl,hd⟩
 cases d with
 | slice elem=>
  refine SR.bind' (sr_size elem) ?_
  rintro n _ rfl
  show SR P S F f _ (if _ then _ else _) (if _ then _ else _)
  split
  ·exact SR.dead (dead_bind (dead_unsup _) _)
  ·extract_lets jp jp'
   have hrest:∀z:Array Value,(∀x,x∈z→VOk S F x)→z.map (rnV f)=z→SR P S F f (VR S F f) (jp z) (jp' z):=by
    intro z hz1 hz2
    have h0:=zeros_ok hz1 hz2 (len*n)
    have:=fill_rn (f:=f) (fun i=>some (i*n,n)) parts.toList _ (fun p h=>hp p (Array.mem_toList_iff.1 h)) h0.2
    rw[h0.1]at this
    dsimp (config:={ zeta:=false }) only[jp,jp']
    rw[Array.toList_map,this.1]
    cases h:Instr.fill (fun i=>some (i*n,n)) ((Array.range (len*n)).map (fun i=>z[i % z.size]!)) parts.toList with
    | none=>exact SR.dead (dead_stuck _)
    | some c=>
     refine SR.bind' (sr_row elem (this.2 c h)) ?_
     rintro a _ ⟨ha,rfl⟩
     exact SR.ret ⟨ok_sl ha,(rn_sl a len len).symm⟩
   clear_value jp jp'
   show SR P S F f _ (if _ then _ else _) (if _ then _ else _)
   split
   ·exact hrest #[] (fun x hx=>by simp at hx) (by simp)
   ·refine SR.bind' (sr_zero (hz elem hd)) ?_
    rintro v _ ⟨rfl,hv⟩
    have:=nob_cells (S:=S) (F:=F) (f:=f) hv
    exact hrest v.cells this.2 this.1
 | _=>exact SR.dead (dead_stuck _)
theorem sr_room(n:Nat):SR P S F f (fun _ _=>True) (askRoom n) (askRoom n):=by
 unfold askRoom
 split
 ·exact Or.inr ⟨_,rfl,trivial,_,rfl,trivial⟩
 ·exact SR.ret trivial
theorem sr_makeSlice {t:TypeId}(hz:∀e,P.underlying t=some (.slice e)→BZ P e){l c:Value}(hl:VOk S F l)(hc:VOk S F c):SR P S F f (VR S F f) (Instr.makeSlice t l c) (Instr.makeSlice t (rnV f l) (rnV f c)):=by
 unfold Instr.makeSlice
 refine SR.bind' (sr_under t) ?_
 rintro d _ ⟨rfl,hd⟩
 cases d with
 | slice elem=>
  refine SR.bind' (sr_int hl) ?_
  rintro l _ rfl
  refine SR.bind' (sr_int hc) ?_
  rintro c _ rfl
  refine SR.bind' (sr_info elem) ?_
  rintro i _ ⟨rfl,_⟩
  show SR P S F f _ (if _ then _ else _) (if _ then _ else _)
  split
  ·apply SR.dead
   split
   ·exact dead_bind (dead_panic _) _
   ·split
    ·exact dead_bind (dead_panic _) _
    ·exact dead_after (nh_choose _) fun _=>dead_bind (dead_panic _) _
  ·refine SR.bind' (sr_room _) ?_
   intro _ _ _
   refine SR.bind' (sr_size elem) ?_
   rintro n _ rfl
   extract_lets nn jp
   have hrest:∀z:Array Value,(∀x,x∈z→VOk S F x)→z.map (rnV f)=z→SR P S F f (VR S F f) (jp z) (jp z):=by
    intro z hz1 hz2
    have h0:=zeros_ok hz1 hz2 ((IntKind.i64.wrap c).toNat*n)
    have h:=sr_row (P:=P) (f:=f) elem h0.2
    rw[h0.1]at h
    refine SR.bind' h ?_
    rintro a _ ⟨ha,rfl⟩
    exact SR.ret ⟨ok_sl ha,(rn_sl a _ _).symm⟩
   clear_value jp
   show SR P S F f _ (if _ then _ else _) (if _ then _ else _)
   split
   ·exact hrest #[] (fun x hx=>by simp at hx) (by simp)
   ·refine SR.bind' (sr_zero (hz elem hd)) ?_
    rintro v _ ⟨rfl,hv⟩
    have:=nob_cells (S:=S) (F:=F) (f:=f) hv
    exact hrest v.cells this.2 this.1
 | _=>exact SR.dead (dead_stuck _)
end
end
section
section
variable {P:Program}{S:Nat→Prop}{F:Fx}{f:Nat→Nat}{α β:Type}{R:α→α→Prop}
theorem nh_int(v:Value):NH P (asInt v):=by
 unfold asInt
 refine nh_bind ?_ fun _=>nh_pure _
 cases v with
 | int k n=>exact nh_pure _
 | pointer a=>
  cases a with
  | none=>exact nh_stuck _
  | some a=>exact(dead_unsup .addressObserved).nh
 | _=>exact nh_stuck _
theorem rn_nilptr:rnV f (.pointer none) = .pointer none:=by simp[rnV]
theorem rn_nilf:rnV f .nilFunc = .nilFunc:=by simp[rnV]
theorem dead_prog {k:Program→Sem α}(h:Dead P (k P)):Dead P (program >>= k):=fun w es=>h w es
theorem sr_unsafeAdd(t:TypeId)(l:Array TypeId){a:Addr}{y:Value}(hw:∀b,F.cl b→P.info? F.wt=none)(ha:AOk S F a)(hy:VOk S F y):SR P S F f (VR S F f) (Builtin.unsafeAdd_ l t #[.pointer (some a),y]) (Builtin.unsafeAdd_ l t #[.pointer (some (rnA f a)),rnV f y]):=by
 unfold Builtin.unsafeAdd_
 refine SR.bind' (sr_int hy) ?_
 rintro n _ rfl
 show SR P S F f _ (if _ then _ else _) (if _ then _ else _)
 split
 ·refine SR.bind' (sr_view ha.1) ?_
  rintro _ _ ⟨rfl,rfl⟩
  exact SR.ret ⟨ok_ptr ha,(rn_ptr a).symm⟩
 ·show SR P S F f _ (if _ then _ else _) (if _ then _ else _)
  split
  ·exact SR.dead (dead_bind (dead_unsup _) _)
  ·refine SR.bind' (sr_shape ha.1) ?_
   intro x x' hx
   by_cases q:F.cl a.block
   ·obtain⟨n',y,rfl,rfl⟩:=hx.2 q
    apply SR.dead
    refine dead_prog ?_
    have e0:P.cellsOf F.wt=0:=by unfold Program.cellsOf;rw[hw _ q];rfl
    have e1:cellAtBytes P P.depth F.wt (n' / P.cellsOf F.wt) a.off n=none:=by unfold cellAtBytes;simp[e0]
    rw[e1]
    exact dead_unsup _
   obtain rfl:=hx.1 q
   cases x' with
   | none=>exact SR.dead (dead_unsup _)
   | some x=>
    obtain⟨e,cells⟩:=x
    refine SR.bind' sr_prog ?_
    rintro _ _ ⟨rfl,rfl⟩
    show SR P S F f _ (match cellAtBytes P P.depth e (cells / P.cellsOf e) a.off n with|some off=>_|none=>_) (match cellAtBytes P P.depth e (cells / P.cellsOf e) a.off n with|some off=>_|none=>_)
    split
    ·exact SR.ret ⟨ok_ptr ⟨ha.1,fun c=>absurd c q⟩,by rw[rn_ptr];rfl⟩
    ·exact SR.dead (dead_unsup _)
theorem sr_moved(hw:∀b,F.cl b→P.info? F.wt=none)(t:TypeId){x y:Value}(hx:VOk S F x)(hy:VOk S F y):SR P S F f (VR S F f) (movedNumber t x y) (movedNumber t (rnV f x) (rnV f y)):=by
 unfold movedNumber
 refine SR.bind' (sr_under t) ?_
 rintro d _ ⟨rfl,_⟩
 extract_lets jp jp'
 have hrest:SR P S F f (VR S F f) (jp ()) (jp' ()):=by
  dsimp (config:={ zeta:=false }) only[jp,jp']
  clear jp jp'
  cases x with
  | pointer p=>
   cases p with
   | none=>
    apply SR.dead
    unfold Builtin.unsafeAdd_
    refine dead_after (nh_int _) fun n=>?_
    show Dead P (if _ then _ else _)
    split
    ·exact dead_unsup _
    ·show Dead P (if _ then _ else _)
     split
     ·exact dead_bind (dead_unsup _) _
     ·exact dead_unsup _
   | some a=>
    rw[rn_ptr]
    rw[VOk]at hx
    refine SR.bind' (sr_behind (hx a rfl)) ?_
    rintro z _ ⟨hz,rfl⟩
    obtain⟨b,l⟩:=z
    refine SR.bind' (sr_unsafeAdd t #[] hw hz hy) ?_
    rintro v _ ⟨hv,rfl⟩
    cases v with
    | pointer q=>
     cases q with
     | none=>rw[rn_nilptr];exact SR.ret ⟨hv,rn_nilptr.symm⟩
     | some q=>rw[rn_ptr];rw[VOk]at hv;exact sr_asNumber (hv q rfl) l
    | int k n=>rw[rn_int];exact SR.ret ⟨hv,(rn_int k n).symm⟩
    | bool b=>rw[rn_bool];exact SR.ret ⟨hv,(rn_bool b).symm⟩
    | slice a n c=>rw[rn_slice];exact SR.ret ⟨hv,(rn_slice a n c).symm⟩
    | nilFunc=>rw[rn_nilf];exact SR.ret ⟨hv,rn_nilf.symm⟩
    | func fn a b=>rw[rnV];exact SR.ret ⟨hv,by rw[rnV]⟩
    | agg c=>rw[rn_agg];exact SR.ret ⟨hv,(rn_agg c).symm⟩
    | tuple c=>rw[rnV];exact SR.ret ⟨hv,by rw[rnV]⟩
    | _=>simp[VOk]at hv
  | _=>exact SR.dead (dead_stuck _)
 show SR P S F f _ (if _ then _ else _) (if _ then _ else _)
 split
 ·exact SR.dead (dead_halt _ (fun g h=>by cases h))
 ·exact hrest
theorem sr_movedP(hw:∀b,F.cl b→P.info? F.wt=none)(t:TypeId){x y:Value}(hx:VOk S F x)(hy:VOk S F y):SR P S F f (VR S F f) (movedPointer t x y) (movedPointer t (rnV f x) (rnV f y)):=by
 unfold movedPointer
 cases x with
 | pointer p=>
  cases p with
  | none=>
   apply SR.dead
   show Dead P (Builtin.unsafeAdd_ #[] t #[.pointer none,y])
   unfold Builtin.unsafeAdd_
   refine dead_after (nh_int _) fun n=>?_
   show Dead P (if _ then _ else _)
   split
   ·exact dead_unsup _
   ·show Dead P (if _ then _ else _)
    split
    ·exact dead_bind (dead_unsup _) _
    ·exact dead_unsup _
  | some a=>
   rw[rn_ptr]
   rw[VOk]at hx
   refine SR.bind' (sr_number (hx a rfl).1) ?_
   rintro z _ ⟨hz,rfl⟩
   have e:(z.map fun x=>(rnA f x.1,x.2)).isSome=z.isSome:=by cases z<;>rfl
   rw[e]
   split
   ·exact SR.dead (dead_bind (dead_unsup _) _)
   ·exact sr_unsafeAdd t #[] hw (hx a rfl) hy
 | _=>exact SR.dead (dead_stuck _)
theorem dead_two {a:Addr}(b:Addr)(h:P.globals.size≤a.block):Dead P (Op.twoPlaces a b):=by
 unfold Op.twoPlaces
 refine dead_prog ?_
 have e:(a.block != b.block || decide (a.block ≥ P.globals.size))=true:=by simp[h]
 rw[e]
 exact dead_halt _ (fun g h=>by cases h)
theorem sr_addrMod(hw:∀b,F.cl b→P.info? F.wt=none)(k:IntKind){a:Addr}(ha:AOk S F a)(n:Int):SR P S F f (VR S F f) (Op.addrMod k a n) (Op.addrMod k (rnA f a) n):=by
 unfold Op.addrMod
 refine SR.bind' (sr_shape ha.1) ?_
 intro x x' hx
 by_cases q:F.cl a.block
 ·obtain⟨n',y,rfl,rfl⟩:=hx.2 q
  apply SR.dead
  refine dead_bind (s:=typeInfo F.wt) (fun w es=>⟨_,w,es,?_,by unfold typeInfo;simp only[program,Bind.bind,Sem.bind,Sem.runT,hw _ q];rfl⟩) _
  trivial
 obtain rfl:=hx.1 q
 cases x' with
 | none=>exact SR.dead (dead_unsup _)
 | some x=>
  obtain⟨e,_⟩:=x
  refine SR.bind' (sr_info e) ?_
  rintro i _ ⟨rfl,_⟩
  show SR P S F f _ (if _ then _ else _) (if _ then _ else _)
  split
  ·exact SR.dead (dead_bind (dead_unsup _) _)
  ·refine SR.bind' (sr_byteOf ha q) ?_
   rintro b _ rfl
   exact SR.ret ⟨ok_int _ _,(rn_int _ _).symm⟩
theorem sr_intArith(op:BinOp)(k:IntKind)(a b:Int):SR P S F f (VR S F f) (Op.intArith op k a b) (Op.intArith op k a b):=by
 unfold Op.intArith
 split<;>first|exact SR.ret ⟨ok_int _ _,(rn_int _ _).symm⟩|exact SR.dead (dead_stuck _)
theorem sr_intDiv(op:BinOp)(k:IntKind)(a b:Int):SR P S F f (VR S F f) (Op.intDiv op k a b) (Op.intDiv op k a b):=by
 unfold Op.intDiv
 split
 ·exact SR.dead (dead_panic _)
 ·split<;>first|exact SR.ret ⟨ok_int _ _,(rn_int _ _).symm⟩|exact SR.dead (dead_stuck _)
theorem sr_intBits(op:BinOp)(k:IntKind)(a b:Int):SR P S F f (VR S F f) (Op.intBits op k a b) (Op.intBits op k a b):=by
 unfold Op.intBits
 show SR P S F f _ (match op with | .and=>_ | .or=>_ | .xor=>_ | .andNot=>_|_=>_) (match op with | .and=>_ | .or=>_ | .xor=>_ | .andNot=>_|_=>_)
 split<;>first|exact SR.ret ⟨ok_int _ _,(rn_int _ _).symm⟩|exact SR.dead (dead_stuck _)
theorem sr_intCmp(op:BinOp)(a b:Int):SR P S F f (VR S F f) (Op.intCmp op a b) (Op.intCmp op a b):=by
 unfold Op.intCmp
 split<;>first|exact SR.ret ⟨ok_bool _,(rn_bool _).symm⟩|exact SR.dead (dead_stuck _)
def Sum(op:BinOp):Prop:=op ≠ .eql∧op ≠ .neq∧op ≠ .shl∧op ≠ .shr
theorem sr_ints {op:BinOp}(h1:op ≠ .shl)(h2:op ≠ .shr)(t:TypeId)(k k':IntKind)(a b:Int):SR P S F f (VR S F f) (binOp op t (.int k a) (.int k' b)) (binOp op t (.int k a) (.int k' b)):=by
 cases op<;>first
   | exact absurd rfl h1
   | exact absurd rfl h2
   | (show SR P S F f _ (if _ then _ else _) (if _ then _ else _)
      split
      · exact SR.dead (dead_stuck _)
      · first|exact sr_intArith _ _ _ _|exact sr_intDiv _ _ _ _|exact sr_intBits _ _ _ _|exact sr_intCmp _ _ _)
set_option maxHeartbeats 2000000 in
theorem sr_sum(hG:GOk P S F){op:BinOp}(ho:Sum op)(t:TypeId){x y:Value}(hx:VOk S F x)(hy:VOk S F y):SR P S F f (VR S F f) (binOp op t x y) (binOp op t (rnV f x) (rnV f y)):=by
 obtain⟨o1,o2,o3,o4⟩:=ho
 cases x with
 | int k a=>
  cases y with
  | int k' b=>rw[rn_int,rn_int];exact sr_ints o3 o4 t k k' a b
  | pointer p=>
   rw[rn_int]
   cases p with
   | none=>rw[rn_nilptr];cases op<;>(first|exact absurd rfl o1|exact absurd rfl o2|exact absurd rfl o3|exact absurd rfl o4|exact SR.dead (dead_unsup _)|(have:=sr_moved (P:=P) (f:=f) hG.2 t hy (ok_int (S:=S) (F:=F) k a);rw[rn_nilptr,rn_int]at this;exact this))
   | some p=>
    have hp:AOk S F p:=by rw[VOk]at hy;exact hy p rfl
    rw[rn_ptr]
    cases op<;>(first|exact absurd rfl o1|exact absurd rfl o2|exact absurd rfl o3|exact absurd rfl o4|exact SR.dead (dead_unsup _)|(have:=sr_moved (P:=P) (f:=f) hG.2 t hy (ok_int (S:=S) (F:=F) k a);rw[rn_ptr,rn_int]at this;exact this)|(refine SR.bind' (sr_behind hp) ?_;rintro z _ ⟨hz,rfl⟩;exact sr_addrMod hG.2 _ hz _))
  | _=>cases op<;>(first|exact absurd rfl o1|exact absurd rfl o2|exact absurd rfl o3|exact absurd rfl o4|exact SR.dead (dead_stuck _)|(simp[VOk]at hy))
 | pointer p=>
  cases p with
  | none=>
   rw[rn_nilptr]
   cases y with
   | int k b=>
    rw[rn_int]
    cases op<;>(first|exact absurd rfl o1|exact absurd rfl o2|exact absurd rfl o3|exact absurd rfl o4|exact SR.dead (dead_unsup _)|(have:=sr_moved (P:=P) (f:=f) hG.2 t hx (ok_int (S:=S) (F:=F) k (-b));rw[rn_nilptr,rn_int]at this;exact this)|(refine SR.bind' (sr_under t) ?_;rintro d _ ⟨rfl,_⟩;have h1:=sr_moved (P:=P) (f:=f) hG.2 t hx (ok_int (S:=S) (F:=F) k b);have h2:=sr_movedP (P:=P) (f:=f) hG.2 t hx (ok_int (S:=S) (F:=F) k b);rw[rn_nilptr,rn_int]at h1 h2;cases d<;>first|exact h1|exact h2))
   | pointer q=>cases q<;>cases op<;>(first|exact absurd rfl o1|exact absurd rfl o2|exact absurd rfl o3|exact absurd rfl o4|exact SR.dead (dead_unsup _))
   | _=>cases op<;>(first|exact absurd rfl o1|exact absurd rfl o2|exact absurd rfl o3|exact absurd rfl o4|exact SR.dead (dead_unsup _)|(simp[VOk]at hy))
  | some p=>
   have hp:AOk S F p:=by rw[VOk]at hx;exact hx p rfl
   rw[rn_ptr]
   cases y with
   | int k b=>
    rw[rn_int]
    cases op<;>(first|exact absurd rfl o1|exact absurd rfl o2|exact absurd rfl o3|exact absurd rfl o4|exact SR.dead (dead_unsup _)|(have:=sr_moved (P:=P) (f:=f) hG.2 t hx (ok_int (S:=S) (F:=F) k (-b));rw[rn_ptr,rn_int]at this;exact this)|(refine SR.bind' (sr_behind hp) ?_;rintro z _ ⟨hz,rfl⟩;exact sr_addrMod hG.2 _ hz _)|(refine SR.bind' (sr_under t) ?_;rintro d _ ⟨rfl,_⟩;have h1:=sr_moved (P:=P) (f:=f) hG.2 t hx (ok_int (S:=S) (F:=F) k b);have h2:=sr_movedP (P:=P) (f:=f) hG.2 t hx (ok_int (S:=S) (F:=F) k b);rw[rn_ptr,rn_int]at h1 h2;cases d<;>first|exact h1|exact h2))
   | pointer q=>
    cases q with
    | none=>rw[rn_nilptr];cases op<;>(first|exact absurd rfl o1|exact absurd rfl o2|exact absurd rfl o3|exact absurd rfl o4|exact SR.dead (dead_unsup _))
    | some q=>
     have hq:AOk S F q:=by rw[VOk]at hy;exact hy q rfl
     rw[rn_ptr]
     cases op<;>(first|exact absurd rfl o1|exact absurd rfl o2|exact absurd rfl o3|exact absurd rfl o4|exact SR.dead (dead_unsup _)|(refine SR.bind' (sr_behind hp) ?_;rintro z _ ⟨hz,rfl⟩;refine SR.bind' (sr_behind hq) ?_;rintro z2 _ ⟨hz2,rfl⟩;exact SR.dead (dead_bind (dead_two _ (hG.1 _ hz.1)) _)))
   | _=>cases op<;>(first|exact absurd rfl o1|exact absurd rfl o2|exact absurd rfl o3|exact absurd rfl o4|exact SR.dead (dead_unsup _)|(simp[VOk]at hy))
 |float _ _|complex _ _ _|string _|map _|chan _|iface _ _|nilIface=>simp[VOk]at hx
 | _=>
  cases y with
  |float _ _|complex _ _ _|string _|map _|chan _|iface _ _|nilIface=>simp[VOk]at hy
  | pointer q=>cases op<;>(first|exact absurd rfl o1|exact absurd rfl o2|exact absurd rfl o3|exact absurd rfl o4|exact SR.dead (dead_unsup _))
  | _=>cases op<;>(first|exact absurd rfl o1|exact absurd rfl o2|exact absurd rfl o3|exact absurd rfl o4|exact SR.dead (dead_stuck _))
end
end
section
section
variable {P:Program}{S:Nat→Prop}{F:Fx}{f:Nat→Nat}{α β:Type}{R:α→α→Prop}
structure IntT(P:Program)(t:TypeId):Prop where
 int:∃k,P.underlying t=some (.int k)
 plain : ∀ i u, P.info? t = some i → i.desc ≠ .named "sync.copyChecker" u
theorem sr_equal_int(hG:GOk P S F){t:TypeId}(ht:IntT P t){x y:Value}(hx:VOk S F x)(hy:VOk S F y):SR P S F f (fun a a'=>a=a') (Op.equal t x y) (Op.equal t (rnV f x) (rnV f y)):=by
 show SR P S F f _ (Op.equalIn (9999+1) t x y) (Op.equalIn (9999+1) t (rnV f x) (rnV f y))
 unfold Op.equalIn
 refine SR.bind' (sr_under t) ?_
 rintro d _ ⟨rfl,hd⟩
 obtain⟨k,hk⟩:=ht.int
 rw[hk]at hd
 cases hd
 cases x with
 | int k a=>
  cases y with
  | int k' b=>
   rw[rn_int,rn_int]
   show SR P S F f _ (if _ then _ else _) (if _ then _ else _)
   split
   ·exact SR.ret rfl
   ·exact SR.dead (dead_stuck _)
  | pointer q=>
   cases q with
   | none=>exact SR.dead (dead_unsup _)
   | some q=>
    rw[rn_int,rn_ptr]
    cases a with
    | ofNat n=>
     cases n with
     | zero=>exact SR.ret rfl
     | succ n=>exact SR.dead (dead_unsup _)
    | negSucc n=>exact SR.dead (dead_unsup _)
  | _=>exact SR.dead (dead_stuck _)
 | pointer p=>
  cases p with
  | none=>cases y<;>exact SR.dead (dead_unsup _)
  | some p=>
   have hp:AOk S F p:=by rw[VOk]at hx;exact hx p rfl
   cases y with
   | int k b=>
    rw[rn_int,rn_ptr]
    cases b with
    | ofNat n=>
     cases n with
     | zero=>exact SR.ret rfl
     | succ n=>exact SR.dead (dead_unsup _)
    | negSucc n=>exact SR.dead (dead_unsup _)
   | pointer q=>
    cases q with
    | none=>exact SR.dead (dead_unsup _)
    | some q=>
     have hq:AOk S F q:=by rw[VOk]at hy;exact hy q rfl
     rw[rn_ptr,rn_ptr]
     refine SR.bind' (sr_behind hp) ?_
     rintro z _ ⟨hz,rfl⟩
     refine SR.bind' (sr_behind hq) ?_
     rintro z2 _ ⟨hz2,rfl⟩
     apply SR.dead
     refine dead_prog ?_
     have e:(z.1.block == z2.1.block && decide (z.1.block<P.globals.size))=false:=by
      have:=hG.1 _ hz.1
      have h0:decide (z.1.block<P.globals.size)=false:=by simp;omega
      rw[h0,Bool.and_false]
     show Dead P (if(z.1.block == z2.1.block && decide (z.1.block<P.globals.size))=true then _ else _)
     rw[e]
     intro w es
     cases hi:P.info? t with
     | none=>
      refine dead_bind (s:=typeInfo t) ?_ _ w es
      intro w es
      refine⟨_,w,es,?_,by unfold typeInfo;simp only[program,Bind.bind,Sem.bind,Sem.runT,hi];rfl⟩
      trivial
     | some i=>
      have h1:∀es,(typeInfo t).runT P w es=(.ok i w,es):=by
       intro es
       unfold typeInfo
       simp only[program,Bind.bind,Sem.bind,Sem.runT,hi]
       rfl
      show ∃h w' es',Hk h∧((typeInfo t).bind _).runT P w es=_
      rw[Sem.runT_bind',h1]
      dsimp only
      split
      ·rename_i u h
       exact absurd h (ht.plain i u hi)
      ·exact(dead_unsup (α:=Bool) (P:=P) .addressObserved) w es
   | _=>exact SR.dead (dead_unsup _)
 | _=>
  cases y with
  | pointer q=>exact SR.dead (dead_unsup _)
  | _=>exact SR.dead (dead_stuck _)
theorem sr_equal_nilslice {t e:TypeId}(ht:P.underlying t=some (.slice e)){x:Value}(hx:VOk S F x)(n c:Nat):SR P S F f (fun a a'=>a=a') (Op.equal t x (.slice none n c)) (Op.equal t (rnV f x) (.slice none n c)):=by
 show SR P S F f _ (Op.equalIn (9999+1) t x _) (Op.equalIn (9999+1) t (rnV f x) _)
 unfold Op.equalIn
 refine SR.bind' (sr_under t) ?_
 rintro d _ ⟨rfl,hd⟩
 rw[ht]at hd
 cases hd
 cases x with
 | slice a n c=>
  rw[rn_slice]
  cases a with
  | none=>exact SR.ret rfl
  | some a=>exact SR.ret rfl
 | _=>exact SR.dead (dead_stuck _)
theorem sr_equal_nilptr {t e:TypeId}(ht:P.underlying t=some (.pointer e)){x:Value}(hx:VOk S F x):SR P S F f (fun a a'=>a=a') (Op.equal t x (.pointer none)) (Op.equal t (rnV f x) (.pointer none)):=by
 show SR P S F f _ (Op.equalIn (9999+1) t x _) (Op.equalIn (9999+1) t (rnV f x) _)
 unfold Op.equalIn
 refine SR.bind' (sr_under t) ?_
 rintro d _ ⟨rfl,hd⟩
 rw[ht]at hd
 cases hd
 cases x with
 | pointer a=>
  cases a with
  | none=>rw[rn_nilptr];exact SR.ret rfl
  | some a=>rw[rn_ptr];exact SR.ret rfl
 | _=>exact SR.dead (dead_stuck _)
end
end
section
section
variable {P:Program}{S:Nat→Prop}{F:Fx}{f:Nat→Nat}{α β:Type}{R:α→α→Prop}
theorem arg_at {args:Array Value}(h:∀v,v∈args→VOk S F v)(i:Nat):(args.map (rnV f))[i]?=(args[i]?).map (rnV f)∧∀v,args[i]?=some v→VOk S F v:=⟨by simp,fun v e=>h v (Array.mem_of_getElem? e)⟩
theorem goInt_ok(n:Int):VR S F f (goInt n) (goInt n):=⟨ok_int _ _,(rn_int _ _).symm⟩
theorem sr_len(tys:Array TypeId)(t:TypeId){args:Array Value}(h:∀v,v∈args→VOk S F v):SR P S F f (VR S F f) (Builtin.len_ tys t args) (Builtin.len_ tys t (args.map (rnV f))):=by
 unfold Builtin.len_
 have ha:=arg_at (f:=f) h 0
 rw[ha.1]
 cases tys[0]? with
 | none=>exact SR.dead (dead_stuck _)
 | some ty=>
  cases hx:args[0]? with
  | none=>exact SR.dead (dead_stuck _)
  | some x=>
   have hx:=ha.2 x hx
   refine SR.bind' (sr_under ty) ?_
   rintro d _ ⟨rfl,_⟩
   cases d with
   | array n e=>cases x<;>exact SR.ret (goInt_ok _)
   | pointer arr=>
    cases x<;>(refine SR.bind' (sr_under arr) ?_;rintro d _ ⟨rfl,_⟩;cases d<;>first|exact SR.ret (goInt_ok _)|exact SR.dead (dead_stuck _))
   | slice e=>
    cases x with
    | slice a n c=>simp only[rn_slice];exact SR.ret (goInt_ok _)
    | _=>exact SR.dead (dead_stuck _)
   | _=>cases x<;>first|exact SR.dead (dead_stuck _)|(simp[VOk]at hx)
theorem sr_max2 {x y:Value}(hx:VOk S F x)(hy:VOk S F y):SR P S F f (VR S F f) (Builtin.max2 x y) (Builtin.max2 (rnV f x) (rnV f y)):=by
 cases x with
 | int k a=>
  cases y with
  | int k' b=>rw[rn_int,rn_int];exact SR.ret ⟨ok_int _ _,(rn_int _ _).symm⟩
  | pointer q=>cases q<;>first|exact SR.dead (dead_stuck _)|exact SR.dead (dead_unsup _)
  | _=>exact SR.dead (dead_stuck _)
 | pointer p=>
  cases p with
  | none=>
   cases y with
   | pointer q=>cases q<;>first|exact SR.dead (dead_stuck _)|exact SR.dead (dead_unsup _)
   | _=>exact SR.dead (dead_stuck _)
  | some p=>cases y<;>exact SR.dead (dead_unsup _)
 |float _ _|complex _ _ _|string _|map _|chan _|iface _ _|nilIface=>simp[VOk]at hx
 | _=>
  cases y with
  | pointer q=>cases q<;>first|exact SR.dead (dead_stuck _)|exact SR.dead (dead_unsup _)
  | _=>exact SR.dead (dead_stuck _)
theorem sr_maxs:∀(l:List Value) (x:Value),VOk S F x→(∀v,v∈l→VOk S F v)→SR P S F f (VR S F f) (l.foldlM Builtin.max2 x) ((l.map (rnV f)).foldlM Builtin.max2 (rnV f x)):=by
 intro l
 induction l with
 | nil=>intro x hx _;exact SR.ret ⟨hx,rfl⟩
 | cons y l ih=>
  intro x hx hl
  simp only[List.foldlM_cons,List.map_cons]
  refine SR.bind' (sr_max2 hx (hl y (by simp))) ?_
  rintro v _ ⟨hv,rfl⟩
  exact ih v hv fun z hz=>hl z (by simp[hz])
theorem sr_max(tys:Array TypeId)(t:TypeId){args:Array Value}(h:∀v,v∈args→VOk S F v):SR P S F f (VR S F f) (Builtin.max_ tys t args) (Builtin.max_ tys t (args.map (rnV f))):=by
 unfold Builtin.max_
 rw[Array.toList_map]
 have hl:∀v,v∈args.toList→VOk S F v:=fun v hv=>h v (Array.mem_toList_iff.1 hv)
 revert hl
 cases args.toList with
 | nil=>intro _;exact SR.dead (dead_stuck _)
 | cons x l=>intro hl;exact sr_maxs l x (hl x (by simp)) fun v hv=>hl v (by simp[hv])
theorem sr_lenOf {x:Value}(hx:VOk S F x):SR P S F f (fun a a'=>a=a') (Builtin.lenOf x) (Builtin.lenOf (rnV f x)):=by
 cases x with
 | slice a n c=>rw[rn_slice];exact SR.ret rfl
 | string s=>simp[VOk]at hx
 | _=>exact SR.dead (dead_stuck _)
theorem sr_first(size n:Nat){x:Value}(hx:VOk S F x):SR P S F f (CR S F f) (Builtin.firstCells size n x) (Builtin.firstCells size n (rnV f x)):=by
 cases x with
 | slice a m c=>
  rw[rn_slice]
  cases a with
  | none=>exact SR.ret ⟨fun v hv=>by simp at hv,by simp⟩
  | some a=>exact sr_cells (sl_ok hx a rfl) _
 | string s=>simp[VOk]at hx
 | _=>exact SR.dead (dead_stuck _)
theorem sr_copy(tys:Array TypeId)(t:TypeId){args:Array Value}(h:∀v,v∈args→VOk S F v):SR P S F f (VR S F f) (Builtin.copy_ tys t args) (Builtin.copy_ tys t (args.map (rnV f))):=by
 unfold Builtin.copy_
 have h0:=arg_at (f:=f) h 0
 have h1:=arg_at (f:=f) h 1
 rw[h0.1,h1.1]
 cases tys[0]? with
 | none=>exact SR.dead (dead_stuck _)
 | some ty=>
  cases hd:args[0]? with
  | none=>exact SR.dead (dead_stuck _)
  | some d=>
   cases hs:args[1]? with
   | none=>exact SR.dead (dead_stuck _)
   | some s=>
    have hd:=h0.2 d hd
    have hs:=h1.2 s hs
    refine SR.bind' (sr_under ty) ?_
    rintro u _ ⟨rfl,_⟩
    cases u with
    | slice elem=>
     cases d with
     | slice base n c=>
      simp only[rn_slice]
      refine SR.bind' (sr_lenOf hs) ?_
      rintro m _ rfl
      refine SR.bind' (sr_size elem) ?_
      rintro z _ rfl
      refine SR.bind' (sr_first z _ hs) ?_
      rintro cells _ ⟨hc,rfl⟩
      cases base with
      | none=>exact SR.ret (goInt_ok _)
      | some a=>
       have h2:=sr_storeCells (P:=P) (F:=F) (f:=f) (sl_ok hd a rfl) cells.toList 0 (fun v hv=>hc v (Array.mem_toList_iff.1 hv))
       rw[←Array.toList_map]at h2
       refine SR.bind' h2 ?_
       intro _ _ _
       exact SR.ret (goInt_ok _)
     | _=>exact SR.dead (dead_stuck _)
    | _=>exact SR.dead (dead_stuck _)
theorem sr_zeroCells {e:TypeId}(hz:BZ P e)(n:Nat):SR P S F f (CR S F f) (do pure (Builtin.zeroCells (←zeroValue e).cells n)) (do pure (Builtin.zeroCells (←zeroValue e).cells n)):=by
 refine SR.bind' (sr_zero hz) ?_
 rintro v _ ⟨rfl,hv⟩
 have:=nob_cells (S:=S) (F:=F) (f:=f) hv
 have h0:=zeros_ok this.2 this.1 (n*v.cells.size)
 exact SR.ret ⟨h0.2,h0.1.symm⟩
theorem nh_holds(a:Addr)(n:Nat):NH P (Builtin.holdsCells a n):=by
 unfold Builtin.holdsCells
 refine nh_bind (nh_shape _) fun x=>?_
 split<;>exact nh_pure _
theorem nh_share(size m n:Nat)(base:Option Addr)(x:Value):NH P (Builtin.mayShare size m n base x):=by
 unfold Builtin.mayShare
 cases base<;>dsimp only<;>repeat' (first|exact nh_pure _|exact nh_holds _ _|exact nh_frozen _|refine nh_bind ?_ fun _=>?_|split)
theorem sr_append {tys:Array TypeId}(hz:∀ty e,tys[0]?=some ty→P.underlying ty=some (.slice e)→BZ P e)(t:TypeId){args:Array Value}(h:∀v,v∈args→VOk S F v):SR P S F f (VR S F f) (Builtin.append_ tys t args) (Builtin.append_ tys t (args.map (rnV f))):=by
 unfold Builtin.append_
 have h0:=arg_at (f:=f) h 0
 have h1:=arg_at (f:=f) h 1
 rw[h0.1,h1.1]
 cases hty:tys[0]? with
 | none=>exact SR.dead (dead_stuck _)
 | some ty=>
  cases hd:args[0]? with
  | none=>exact SR.dead (dead_stuck _)
  | some d=>
   cases hs:args[1]? with
   | none=>exact SR.dead (dead_stuck _)
   | some s=>
    have hd:=h0.2 d hd
    have hs:=h1.2 s hs
    refine SR.bind' (sr_under ty) ?_
    rintro u _ ⟨rfl,hu⟩
    cases u with
    | slice elem=>
     have hze:=hz ty elem hty hu
     cases d with
     | slice base n c=>
      rw[rn_slice]
      have hb:=sl_ok hd
      have hS:VOk S F (.slice base n c):=hd
      refine SR.bind' (sr_size elem) ?_
      rintro z _ rfl
      extract_lets jx jp jp'
      have hk:∀b,SR P S F f (VR S F f) (jp b) (jp' b):=by
       intro zeros
       dsimp (config:={ zeta:=false }) only[jp,jp']
       clear jp jp'
       extract_lets ja ja'
       have hka:∀m,SR P S F f (VR S F f) (ja m) (ja' m):=by
        intro m
        have happ:SR P S F f (CR S F f) (if(!zeros)=true then Builtin.firstCells z m s else if m*z=0 then pure #[]else(zeroValue elem >>= fun v=>pure (Builtin.zeroCells v.cells m))) (if(!zeros)=true then Builtin.firstCells z m (rnV f s)else if m*z=0 then pure #[]else(zeroValue elem >>= fun v=>pure (Builtin.zeroCells v.cells m))):=by
         split
         ·exact sr_first z m hs
         ·split
          ·exact SR.ret ⟨fun v hv=>by simp at hv,by simp⟩
          ·exact sr_zeroCells hze m
        show SR P S F f _ (if _ then _ else _) (if _ then _ else _)
        split
        ·refine SR.bind' happ ?_
         rintro cells _ ⟨hc,rfl⟩
         cases base with
         | none=>exact SR.ret ⟨ok_slice (fun y e=>by cases e),(rn_slice _ _ _).symm⟩
         | some a=>
          have h2:=sr_storeCells (P:=P) (F:=F) (f:=f) (a:=a.add (n*z)) ((hb a rfl).add _) cells.toList 0 (fun v hv=>hc v (Array.mem_toList_iff.1 hv))
          rw[add_rn, ←Array.toList_map]at h2
          refine SR.bind' h2 ?_
          intro _ _ _
          exact SR.ret ⟨ok_slice hb,(rn_slice _ _ _).symm⟩
        ·refine SR.bind' (sr_info elem) ?_
         rintro i _ ⟨rfl,_⟩
         show SR P S F f _ (if _ then _ else _) (if _ then _ else _)
         split
         ·exact SR.dead (dead_bind (dead_panic _) _)
         ·refine SR.bind' (sr_info elem) ?_
          rintro i _ ⟨rfl,_⟩
          show SR P S F f _ (if _ then _ else _) (if _ then _ else _)
          split
          ·apply SR.dead
           refine dead_bind ?_ _
           split
           ·exact dead_panic _
           ·refine dead_after (nh_share _ _ _ _ _) fun _=>?_
            show Dead P (if _ then _ else _)
            split
            ·exact dead_after (nh_mark _) fun _=>dead_unsup _
            ·exact dead_unsup _
          ·refine SR.bind' (sr_choose _) ?_
           rintro cap _ rfl
           refine SR.bind' (sr_info elem) ?_
           rintro i _ ⟨rfl,_⟩
           refine SR.bind' (sr_room _) ?_
           intro _ _ _
           have h3:=sr_first (P:=P) (f:=f) z n hS
           rw[rn_slice]at h3
           refine SR.bind' h3 ?_
           rintro old _ ⟨ho,rfl⟩
           refine SR.bind' happ ?_
           rintro new _ ⟨hn,rfl⟩
           refine SR.bind' (sr_zero hze) ?_
           rintro v _ ⟨rfl,hv⟩
           have h4:=nob_cells (S:=S) (F:=F) (f:=f) hv
           have h5:=zeros_ok h4.2 h4.1 ((cap-(n+m))*v.cells.size)
           have h6:=sr_row (P:=P) (S:=S) (F:=F) (f:=f) elem (c:=old++new++Builtin.zeroCells v.cells (cap-(n+m))) (fun x hx=>by
            rcases Array.mem_append.1 hx with hx|hx
            ·rcases Array.mem_append.1 hx with hx|hx
             ·exact ho x hx
             ·exact hn x hx
            ·exact h5.2 x hx)
           have e6:(old++new++Builtin.zeroCells v.cells (cap-(n+m))).map (rnV f)=old.map (rnV f)++new.map (rnV f)++Builtin.zeroCells v.cells (cap-(n+m)):=by
            rw[Array.map_append,Array.map_append]
            congr 1
            exact h5.1
           rw[e6]at h6
           refine SR.bind' h6 ?_
           rintro a _ ⟨ha,rfl⟩
           exact SR.ret ⟨ok_sl ha,(rn_sl a _ _).symm⟩
       clear_value ja ja'
       show SR P S F f _ (if _ then _ else _) (if _ then _ else _)
       split
       ·refine SR.bind' (sr_int hs) ?_
        rintro l _ rfl
        show SR P S F f _ (if _ then _ else _) (if _ then _ else _)
        split
        ·exact SR.dead (dead_bind (dead_panic _) _)
        ·refine SR.bind' (sr_info elem) ?_
         rintro i _ ⟨rfl,_⟩
         show SR P S F f _ (if _ then _ else _) (if _ then _ else _)
         split
         ·exact SR.dead (dead_after (nh_choose _) fun _=>dead_bind (dead_panic _) _)
         ·exact hka _
       ·refine SR.bind' (sr_lenOf hs) ?_
        rintro m _ rfl
        exact hka m
      clear_value jp jp'
      cases tys[1]? with
      | none=>exact hk false
      | some xt=>
       refine SR.bind' (sr_under xt) ?_
       rintro d _ ⟨rfl,_⟩
       exact hk _
     | _=>exact SR.dead (dead_stuck _)
    | _=>exact SR.dead (dead_stuck _)
end
end
section
def TOd(F:Fx):Operand→Prop
 | .tmp _=>True
 | .const v=>NoB v
 | .func g=>F.fn g
 | .global _=>False
def TBin(P:Program)(op:BinOp)(t:TypeId)(y:Operand):Prop:=
 Sum op∨((op = .eql∨op = .neq)∧P.eqGuardType P.depth t=false∧(IntT P t∨(∃e,P.underlying t=some (.slice e)∧∃n c,y = .const (.slice none n c))∨(∃e,P.underlying t=some (.pointer e)∧y = .const (.pointer none))))
def TZs(P:Program)(t:TypeId):Prop:=∀e,P.underlying t=some (.slice e)→BZ P e
def TOp(P:Program)(F:Fx):Op→Prop
 |.move x | .assign x | .box _ x | .load _ x | .nilCheck x | .extract x _=>TOd F x
 | .fieldAddr t x _=>FRs P t∧TOd F x
 | .pick c a b=>TOd F c∧TOd F a∧TOd F b
 | .alloc t=>BZ P t
 | .build t parts=>BZ P t∧∀p,p∈parts→TOd F p.2
 | .buildSlice t _ parts=>TZs P t∧∀p,p∈parts→TOd F p.2
 | .store _ a x=>TOd F a∧TOd F x
 | .binOp op t x y _=>TOd F x∧TOd F y∧TBin P op t y
 | .unOp op _ x=>(op = .not∨op = .neg)∧TOd F x
 | .makeFunc fn first captured=>(∃g,fn = .func g∧F.fn g)∧first = #[]∧∀x,x∈captured→TOd F x
 | .makeSlice t l c=>TZs P t∧TOd F l∧TOd F c
 | .slice _ x lo hi mx=>TOd F x∧(∀y,lo=some y→TOd F y)∧(∀y,hi=some y→TOd F y)∧∀y,mx=some y→TOd F y
 | .indexAddr _ x i=>TOd F x∧TOd F i
 | .call c=>(∀x,x∈c.args→TOd F x)∧((∃x,c.callee = .value x∧TOd F x)∨c.callee = .builtin .len∨c.callee = .builtin .max∨c.callee = .builtin .copy∨(c.callee = .builtin .append∧∀ty,c.argTypes[0]?=some ty→TZs P ty))
 | _=>False
def TFn (P : Program) (F : Fx) : Prop := ∀ g, F.fn g → ∃ fn, P.funcs[g]? = some fn ∧ fn.body.isSome = true ∧ (fn.name == "runtime.NumGoroutine") = false
section
variable {P:Program}{S:Nat→Prop}{F:Fx}{f:Nat→Nat}{α β:Type}{R:α→α→Prop}
theorem sr_callFunc(hF:TFn P F){g:Nat}(hg:F.fn g){args:Array Value}(h:∀v,v∈args→VOk S F v):SR P S F f (NR S F f) (callFunc g args) (callFunc g (args.map (rnV f))):=by
 obtain⟨fn,h1,h2,h3⟩:=hF g hg
 unfold callFunc
 refine SR.bind' sr_prog ?_
 rintro _ _ ⟨rfl,rfl⟩
 rw[h1]
 dsimp only
 rw[h3]
 have h4:fn.body.isNone=false:=by cases hb:fn.body<;>simp_all
 rw[h4]
 exact SR.ret ⟨hg,h,rfl⟩
theorem sr_value {s s':Sem Value}(h:SR P S F f (VR S F f) s s'):SR P S F f (NR S F f) (do pure (Next.value (←s))) (do pure (Next.value (←s'))):=by
 refine SR.bind' h ?_
 rintro v _ ⟨hv,rfl⟩
 exact SR.ret ⟨hv,rfl⟩
theorem sr_unit {s s':Sem Unit}(h:SR P S F f (fun _ _=>True) s s'):SR P S F f (NR S F f) (do s;pure Next.skip) (do s';pure Next.skip):=by
 refine SR.bind' h ?_
 intro _ _ _
 exact SR.ret rfl
theorem guard_none(op:BinOp)(t:TypeId)(x y:Operand){a b:Value}(h:∀c c', ¬(a = .agg c∧b = .agg c'))(h':a ≠ .nilIface):eqGuard op t x y a b=pure ():=by
 unfold eqGuard
 cases op<;>(first|rfl|(show(match a,b with | .nilIface,.nilIface=>_ | .agg _,.agg _=>_|_,_=>_)=_;split;exact absurd rfl h';exact absurd ⟨rfl,rfl⟩ (h _ _);rfl))
theorem guard_agg {op:BinOp}(ho:op = .eql∨op = .neq){t:TypeId}(x y:Operand)(c c' d d':Array Value)(h:P.eqGuardType P.depth t=false):SR P S F f (fun _ _=>True) (eqGuard op t x y (.agg c) (.agg c')) (eqGuard op t x y (.agg d) (.agg d')):=by
 unfold eqGuard
 rcases ho with rfl|rfl
 all_goals
  refine SR.bind' sr_prog ?_
  rintro _ _ ⟨rfl,rfl⟩
  refine SR.bind' sr_prog ?_
  rintro _ _ ⟨rfl,rfl⟩
  rw[h]
  exact SR.ret trivial
theorem guard_other {op:BinOp}(ho:¬(op = .eql∨op = .neq))(t:TypeId)(x y:Operand)(a b:Value):eqGuard op t x y a b=pure ():=by
 unfold eqGuard
 cases op<;>first|rfl|exact absurd (by simp) ho
theorem agg_of_rn {a:Value}{c:Array Value}(h:rnV f a = .agg c):∃c',a = .agg c':=by
 cases a<;>simp[rnV]at h ⊢
theorem iface_of_rn {a:Value}(h:rnV f a = .nilIface):a = .nilIface:=by
 cases a<;>simp[rnV]at h ⊢
theorem sr_eqGuard {op:BinOp}{t:TypeId}(x y:Operand){a b:Value}(ha:VOk S F a)(h:op = .eql∨op = .neq→P.eqGuardType P.depth t=false):SR P S F f (fun _ _=>True) (eqGuard op t x y a b) (eqGuard op t x y (rnV f a) (rnV f b)):=by
 have hn:a ≠ .nilIface:=fun e=>by subst e;simp[VOk]at ha
 by_cases hc:∃c c',a = .agg c∧b = .agg c'
 ·obtain⟨c,c',rfl,rfl⟩:=hc
  rw[rn_agg,rn_agg]
  by_cases ho:op = .eql∨op = .neq
  ·exact guard_agg ho x y _ _ _ _ (h ho)
  ·rw[guard_other ho,guard_other ho];exact SR.ret trivial
 ·rw[guard_none op t x y (fun c c' e=>hc ⟨c,c',e⟩) hn,guard_none op t x y ?_ (fun e=>hn (iface_of_rn e))]
  ·exact SR.ret trivial
  ·rintro c c' ⟨e1,e2⟩
   obtain⟨d,rfl⟩:=agg_of_rn e1
   obtain⟨d',rfl⟩:=agg_of_rn e2
   exact hc ⟨d,d',rfl,rfl⟩
theorem sr_eq(hG:GOk P S F){t:TypeId}{y:Operand}{a b:Value}(ha:VOk S F a)(hb:VOk S F b)(hy:∀v, y = .const v→b=v)
  (h:IntT P t∨(∃e,P.underlying t=some (.slice e)∧∃n c,y = .const (.slice none n c))∨(∃e,P.underlying t=some (.pointer e)∧y = .const (.pointer none))):SR P S F f (fun a a'=>a=a') (Op.equal t a b) (Op.equal t (rnV f a) (rnV f b)):=by
 rcases h with h|⟨e,hu,n,c,rfl⟩|⟨e,hu,rfl⟩
 ·exact sr_equal_int hG h ha hb
 ·rw[hy _ rfl]
  have:=sr_equal_nilslice (P:=P) (f:=f) hu ha n c
  rw[rn_slice]
  exact this
 ·rw[hy _ rfl,rn_nilptr]
  exact sr_equal_nilptr hu ha
theorem sr_eqNeq {op:BinOp}(ho:op = .eql∨op = .neq){t:TypeId}{a b:Value}(ha:VOk S F a)(hb:VOk S F b)(h:SR P S F f (fun a a'=>a=a') (Op.equal t a b) (Op.equal t (rnV f a) (rnV f b))):SR P S F f (VR S F f) (binOp op t a b) (binOp op t (rnV f a) (rnV f b)):=by
 have hrest:∀(neg:Bool),SR P S F f (VR S F f) (do pure (.bool (neg ^^ (←Op.equal t a b)))) (do pure (.bool (neg ^^ (←Op.equal t (rnV f a) (rnV f b))))):=by
  intro neg
  refine SR.bind' h ?_
  rintro x _ rfl
  exact SR.ret ⟨ok_bool _,(rn_bool _).symm⟩
 have h1:=hrest false
 have h2:=hrest true
 simp only[Bool.false_bne,Bool.true_bne]at h1 h2
 cases a with
 | int k x=>
  cases b with
  | int k' y=>rw[rn_int,rn_int];rcases ho with rfl|rfl<;>exact sr_ints (by simp) (by simp) t k k' x y
  |float _ _|complex _ _ _|string _|map _|chan _|iface _ _|nilIface=>simp[VOk]at hb
  | pointer q=>rw[rn_int]at h1 h2 ⊢;cases q with
   | none=>rw[rn_nilptr]at h1 h2 ⊢;rcases ho with rfl|rfl<;>first|exact h1|exact h2
   | some q=>rw[rn_ptr]at h1 h2 ⊢;rcases ho with rfl|rfl<;>first|exact h1|exact h2
  | bool x=>rw[rn_int,rn_bool]at h1 h2 ⊢;rcases ho with rfl|rfl<;>first|exact h1|exact h2
  | slice x n c=>rw[rn_int,rn_slice]at h1 h2 ⊢;rcases ho with rfl|rfl<;>first|exact h1|exact h2
  | nilFunc=>rw[rn_int,rn_nilf]at h1 h2 ⊢;rcases ho with rfl|rfl<;>first|exact h1|exact h2
  | func fn x y=>rw[rn_int,rnV]at h1 h2 ⊢;rcases ho with rfl|rfl<;>first|exact h1|exact h2
  | agg c=>rw[rn_int,rn_agg]at h1 h2 ⊢;rcases ho with rfl|rfl<;>first|exact h1|exact h2
  | tuple c=>rw[rn_int,rnV]at h1 h2 ⊢;rcases ho with rfl|rfl<;>first|exact h1|exact h2
 |float _ _|complex _ _ _|string _|map _|chan _|iface _ _|nilIface=>simp[VOk]at ha
 | bool x=>rw[rn_bool]at h1 h2 ⊢;rcases ho with rfl|rfl<;>first|exact h1|exact h2
 | slice x n c=>rw[rn_slice]at h1 h2 ⊢;rcases ho with rfl|rfl<;>first|exact h1|exact h2
 | pointer q=>cases q with
  | none=>rw[rn_nilptr]at h1 h2 ⊢;rcases ho with rfl|rfl<;>first|exact h1|exact h2
  | some q=>rw[rn_ptr]at h1 h2 ⊢;rcases ho with rfl|rfl<;>first|exact h1|exact h2
 | nilFunc=>rw[rn_nilf]at h1 h2 ⊢;rcases ho with rfl|rfl<;>first|exact h1|exact h2
 | func fn x y=>rw[rnV]at h1 h2 ⊢;rcases ho with rfl|rfl<;>first|exact h1|exact h2
 | agg c=>rw[rn_agg]at h1 h2 ⊢;rcases ho with rfl|rfl<;>first|exact h1|exact h2
 | tuple c=>rw[rnV]at h1 h2 ⊢;rcases ho with rfl|rfl<;>first|exact h1|exact h2
end
end
end Go.Proofs.YtedifobeggabnaaGreat
