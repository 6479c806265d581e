/- Texts of ours, one behind the other: ZA1 ZA2 ZA3 ZA4. -/
import Derived.Calls
import Derived.Conc.Events
namespace Go.Proofs.YtedifobeggabnaaGreat
section
def rnA(f:Nat→Nat)(a:Addr):Addr:={ a with block:=f a.block }
def rnV(f:Nat→Nat):Value→Value
 | .pointer a=> .pointer (a.map (rnA f))
 | .slice a n c=> .slice (a.map (rnA f)) n c
 | .func fn first captured=> .func fn (first.map (rnV f)) (captured.map (rnV f))
 | .agg cs=> .agg (cs.map (rnV f))
 | .tuple cs=> .tuple (cs.map (rnV f))
 | v=>v
structure Fx where
 fn:Nat→Prop
 lo:Nat→Nat
 cl:Nat→Prop
 wt:TypeId
def AOk(S:Nat→Prop)(F:Fx)(a:Addr):Prop:=S a.block∧(F.cl a.block→F.lo a.block≤a.off)
theorem AOk.add {S:Nat→Prop}{F:Fx}{a:Addr}(h:AOk S F a)(n:Nat):AOk S F (a.add n):=by
 unfold Addr.add
 split
 ·exact h
 ·exact⟨h.1,fun q=>Nat.le_trans (h.2 q) (Nat.le_add_right _ _)⟩
def GOk(P:Program)(S:Nat→Prop)(F:Fx):Prop:=(∀b,S b→P.globals.size≤b)∧∀b,F.cl b→P.info? F.wt=none
def ShR(F:Fx)(r:Nat)(x x':Option (TypeId×Nat)):Prop:=(¬F.cl r→x'=x)∧(F.cl r→∃n y,x=some (F.wt,n)∧x'=some y)
theorem ShR.some {F:Fx}{r:Nat}{x x':Option (TypeId×Nat)}(h:ShR F r x x'):x'.isSome=x.isSome:=by
 by_cases c:F.cl r
 ·obtain⟨n,y,rfl,rfl⟩:=h.2 c
  rfl
 ·rw[h.1 c]
def VOk(S:Nat→Prop)(F:Fx):Value→Prop
 |.bool _ | .int _ _ | .nilFunc=>True
 | .pointer a=>∀x,a=some x→AOk S F x
 | .slice a _ _=>∀x,a=some x→AOk S F x
 | .func fn first captured=>(∃g,fn = .func g∧F.fn g)∧first = #[]∧∀v,v∈captured→VOk S F v
 | .agg cs=>∀v,v∈cs→VOk S F v
 | .tuple cs=>∀v,v∈cs→VOk S F v
 | _=>False
def OOk(S:Nat→Prop)(F:Fx):Obj→Prop
 | .cells c _ _=>∀v,v∈c→VOk S F v
 | .number a _=>AOk S F a
 | _=>False
def rnO(f:Nat→Nat):Obj→Obj
 | .cells c t z=> .cells (c.map (rnV f)) t z
 | .number a l=> .number (rnA f a) l
 | o=>o
theorem VOk.mono {S S':Nat→Prop}{F:Fx}(h:∀b,S b→S' b):∀ {v:Value},VOk S F v→VOk S' F v
 |.bool _,_ | .int _ _,_ | .nilFunc,_=>by simp[VOk]
 | .pointer a,x=>by rw[VOk]at x ⊢;exact fun y e=>⟨h _ (x y e).1,(x y e).2⟩
 | .slice a _ _,x=>by rw[VOk]at x ⊢;exact fun y e=>⟨h _ (x y e).1,(x y e).2⟩
 | .func fn first captured,x=>by rw[VOk]at x ⊢;exact⟨x.1,x.2.1,fun v hv=>VOk.mono h (x.2.2 v hv)⟩
 | .agg cs,x=>by rw[VOk]at x ⊢;exact fun v hv=>VOk.mono h (x v hv)
 | .tuple cs,x=>by rw[VOk]at x ⊢;exact fun v hv=>VOk.mono h (x v hv)
 |.float _ _,x | .complex _ _ _,x | .string _,x | .map _,x | .chan _,x | .iface _ _,x | .nilIface,x=>by simp[VOk]at x
theorem rnV_congr {S:Nat→Prop}{F:Fx}{f g:Nat→Nat}(h:∀b,S b→f b=g b):∀ {v:Value},VOk S F v→rnV f v=rnV g v
 |.bool _,_ | .int _ _,_ | .nilFunc,_=>by simp[rnV]
 | .pointer none,_=>by simp[rnV]
 |.pointer (some a),x=>by rw[VOk]at x;simp[rnV,rnA,h _ (x a rfl).1]
 | .slice none _ _,_=>by simp[rnV]
 |.slice (some a) _ _,x=>by rw[VOk]at x;simp[rnV,rnA,h _ (x a rfl).1]
 | .func fn first captured,x=>by
  rw[VOk]at x
  rw[rnV,rnV,x.2.1]
  simp only[Array.map_empty,Value.func.injEq,true_and]
  exact Array.map_congr_left fun v hv=>rnV_congr h (x.2.2 v hv)
 | .agg cs,x=>by
  rw[VOk]at x
  rw[rnV,rnV]
  simp only[Value.agg.injEq]
  exact Array.map_congr_left fun v hv=>rnV_congr h (x v hv)
 | .tuple cs,x=>by
  rw[VOk]at x
  rw[rnV,rnV]
  simp only[Value.tuple.injEq]
  exact Array.map_congr_left fun v hv=>rnV_congr h (x v hv)
 |.float _ _,x | .complex _ _ _,x | .string _,x | .map _,x | .chan _,x | .iface _ _,x | .nilIface,x=>by simp[VOk]at x
theorem rnV_id {S:Nat→Prop}{F:Fx}:∀ {v:Value},VOk S F v→rnV id v=v
 |.bool _,_ | .int _ _,_ | .nilFunc,_=>by simp[rnV]
 | .pointer none,_=>by simp[rnV]
 |.pointer (some a),_=>by simp[rnV,rnA]
 | .slice none _ _,_=>by simp[rnV]
 |.slice (some a) _ _,_=>by simp[rnV,rnA]
 | .func fn first captured,x=>by
  rw[VOk]at x
  rw[rnV,x.2.1]
  simp only[Array.map_empty,Value.func.injEq,true_and]
  exact(Array.map_congr_left fun v hv=>rnV_id (x.2.2 v hv)).trans (Array.map_id' _)
 | .agg cs,x=>by
  rw[VOk]at x
  rw[rnV]
  simp only[Value.agg.injEq]
  exact(Array.map_congr_left fun v hv=>rnV_id (x v hv)).trans (Array.map_id' _)
 | .tuple cs,x=>by
  rw[VOk]at x
  rw[rnV]
  simp only[Value.tuple.injEq]
  exact(Array.map_congr_left fun v hv=>rnV_id (x v hv)).trans (Array.map_id' _)
 |.float _ _,x | .complex _ _ _,x | .string _,x | .map _,x | .chan _,x | .iface _ _,x | .nilIface,x=>by simp[VOk]at x
theorem rnV_undef(f:Nat→Nat):rnV f undef=undef:=by simp[undef,rnV]
theorem ok_undef(S:Nat→Prop)(F:Fx):VOk S F undef:=by simp[undef,VOk]
theorem cells_rn(f:Nat→Nat){S:Nat→Prop}{F:Fx}{v:Value}(h:VOk S F v):(rnV f v).cells=v.cells.map (rnV f):=by
 cases v<;>simp[rnV,Value.cells]<;>simp[VOk]at h
theorem cells_ok {S:Nat→Prop}{F:Fx}{v:Value}(h:VOk S F v):∀x,x∈v.cells→VOk S F x:=by
 cases v<;>simp[Value.cells]<;>first|exact h|(simp[VOk]at h;done)|(rw[VOk]at h;exact h)
def Hk:Halt→Prop
 |.panic _ | .stuck _=>True
 | .unsupported u=>∀g,u ≠ .initOrder g
 | _=>False
def Dead(P:Program){α:Type}(s:Sem α):Prop:=∀w es, ∃h w' es',Hk h∧s.runT P w es=(.halt h w',es')
def Bare:Mark→Prop
 |.noRoom | .extern _=>True
 | _=>False
def SR(P:Program)(S:Nat→Prop)(F:Fx)(f:Nat→Nat){α:Type}(R:α→α→Prop):Sem α→Sem α→Prop
 | .pure a,s'=>∃a',s' = .pure a'∧R a a'
 | .load m a k,s'=>Dead P (.load m a k)∨∃k',s' = .load m (rnA f a) k'∧m = .plain∧AOk S F a∧∀v,VOk S F v→SR P S F f R (k v) (k' (rnV f v))
 | .store m a v k,s'=>Dead P (.store m a v k)∨∃k',s' = .store m (rnA f a) (rnV f v) k'∧m = .plain∧AOk S F a∧VOk S F v∧SR P S F f R k k'
 | .new o k,s'=>Dead P (.new o k)∨∃k',s' = .new (rnO f o) k'∧OOk S F o∧∀r,S r→¬F.cl r→SR P S F f R (k r) (k' (f r))
 | .shape r k,s'=>Dead P (.shape r k)∨∃k',s' = .shape (f r) k'∧S r∧∀x x',ShR F r x x'→SR P S F f R (k x) (k' x')
 | .freeze a n k,_=>Dead P (.freeze a n k)
 | .frozen a k,_=>Dead P (.frozen a k)
 | .getObj r k,s'=>Dead P (.getObj r k)∨∃k',s' = .getObj (f r) k'∧S r∧∀o,OOk S F o→SR P S F f R (k o) (k' (rnO f o))
 | .setObj r o k,_=>Dead P (.setObj r o k)
 | .choose q k,s'=>Dead P (.choose q k)∨∃k',s' = .choose q k'∧∀n,SR P S F f R (k n) (k' n)
 | .sys c k,_=>Dead P (.sys c k)
 | .program k,s'=>Dead P (.program k)∨∃k',s' = .program k'∧SR P S F f R (k P) (k' P)
 | .mark m k,s'=>Dead P (.mark m k)∨∃k',s' = .mark m k'∧Bare m∧SR P S F f R k k'
 | .halt h,_=>Hk h
section
variable {P:Program}{S:Nat→Prop}{F:Fx}{f:Nat→Nat}{α β:Type}{R:α→α→Prop}{Q:β→β→Prop}
theorem SR.dead {s s':Sem α}(h:Dead P s):SR P S F f R s s':=by
 cases s with
 | pure a=>obtain⟨_,_,_,_,e⟩:=h default #[];simp[Sem.runT]at e
 | halt x=>obtain⟨_,_,_,hk,e⟩:=h default #[];simp only[Sem.runT,Prod.mk.injEq,Result.halt.injEq]at e;obtain⟨⟨rfl,_⟩,_⟩:=e;exact hk
 |load _ _ _|store _ _ _ _|new _ _|shape _ _|getObj _ _|choose _ _|program _|mark _ _=>exact Or.inl h
 |freeze _ _ _|frozen _ _|setObj _ _ _|sys _ _=>exact h
theorem dead_bind {s:Sem α}(h:Dead P s)(k:α→Sem β):Dead P (s.bind k):=by
 intro w es
 obtain⟨x,w',es',hx,e⟩:=h w es
 refine⟨x,w',es',hx,?_⟩
 rw[Sem.runT_bind',e]
theorem SR.bind {s s':Sem α}{k k':α→Sem β}(h:SR P S F f R s s')(hk:∀a a',R a a'→SR P S F f Q (k a) (k' a')):SR P S F f Q (s.bind k) (s'.bind k'):=by
 induction s generalizing s' with
 | pure a=>
  obtain⟨a',rfl,hr⟩:=h
  exact hk _ _ hr
 | load m a c ih=>
  rcases h with h|⟨c',rfl,hm,hs,hc⟩
  ·exact SR.dead (dead_bind h k)
  ·exact Or.inr ⟨_,rfl,hm,hs,fun v hv=>ih v (hc v hv)⟩
 | store m a v c ih=>
  rcases h with h|⟨c',rfl,hm,hs,hv,hc⟩
  ·exact SR.dead (dead_bind h k)
  ·exact Or.inr ⟨_,rfl,hm,hs,hv,ih hc⟩
 | new o c ih=>
  rcases h with h|⟨c',rfl,ho,hc⟩
  ·exact SR.dead (dead_bind h k)
  ·exact Or.inr ⟨_,rfl,ho,fun r hr h0=>ih r (hc r hr h0)⟩
 | shape r c ih=>
  rcases h with h|⟨c',rfl,hs,hc⟩
  ·exact SR.dead (dead_bind h k)
  ·exact Or.inr ⟨_,rfl,hs,fun x x' hx=>ih x (hc x x' hx)⟩
 | getObj r c ih=>
  rcases h with h|⟨c',rfl,hs,hc⟩
  ·exact SR.dead (dead_bind h k)
  ·exact Or.inr ⟨_,rfl,hs,fun o ho=>ih o (hc o ho)⟩
 | choose q c ih=>
  rcases h with h|⟨c',rfl,hc⟩
  ·exact SR.dead (dead_bind h k)
  ·exact Or.inr ⟨_,rfl,fun n=>ih n (hc n)⟩
 | program c ih=>
  rcases h with h|⟨c',rfl,hc⟩
  ·exact SR.dead (dead_bind h k)
  ·exact Or.inr ⟨_,rfl,ih P hc⟩
 | mark m c ih=>
  rcases h with h|⟨c',rfl,hb,hc⟩
  ·exact SR.dead (dead_bind h k)
  ·exact Or.inr ⟨_,rfl,hb,ih hc⟩
 | freeze a n c _=>exact SR.dead (dead_bind (s:= .freeze a n c) h k)
 | frozen a c _=>exact SR.dead (dead_bind (s:= .frozen a c) h k)
 | setObj r o c _=>exact SR.dead (dead_bind (s:= .setObj r o c) h k)
 | sys c k2 _=>exact SR.dead (dead_bind (s:= .sys c k2) h k)
 | halt x=>exact h
theorem SR.bind' {s s':Sem α}{k k':α→Sem β}(h:SR P S F f R s s')(hk:∀a a',R a a'→SR P S F f Q (k a) (k' a')):SR P S F f Q (s >>= k) (s' >>= k'):=SR.bind h hk
theorem SR.ret {a a':α}(h:R a a'):SR P S F f R (Pure.pure a) (Pure.pure a'):=⟨a',rfl,h⟩
end
end
section
def Win(F:Fx)(f:Nat→Nat)(b:Nat)(c c':Array Value):Prop:=(¬F.cl b→c'=c.map (rnV f))∧(F.cl b→c.size≤c'.size∧∀i,F.lo b≤i→i<c.size→c'[i]?=(c[i]?).map (rnV f))
theorem Win.get {F:Fx}{f:Nat→Nat}{b i:Nat}{c c':Array Value}{v:Value}(h:Win F f b c c')(hl:F.cl b→F.lo b≤i)(hv:c[i]?=some v):c'[i]?=some (rnV f v):=by
 by_cases q:F.cl b
 ·rw[(h.2 q).2 i (hl q) (Array.getElem?_eq_some_iff.1 hv).1,hv];rfl
 ·rw[h.1 q,Array.getElem?_map,hv];rfl
theorem Win.set {F:Fx}{f:Nat→Nat}{b:Nat}{c c':Array Value}(h:Win F f b c c')(i:Nat)(v:Value):Win F f b (c.setIfInBounds i v) (c'.setIfInBounds i (rnV f v)):=by
 refine⟨fun q=>by rw[h.1 q,Array.map_setIfInBounds],fun q=>?_⟩
 obtain⟨h1,h2⟩:=h.2 q
 refine⟨by simpa using h1,fun j hj hl=>?_⟩
 have hl:j<c.size:=by simpa using hl
 rw[Array.getElem?_setIfInBounds,Array.getElem?_setIfInBounds]
 by_cases e:i=j
 ·subst e
  rw[if_pos rfl,if_pos rfl,if_pos (by omega),if_pos hl];rfl
 ·rw[if_neg e,if_neg e];exact h2 j hj hl
theorem win_rn(F:Fx)(f:Nat→Nat)(b:Nat)(c:Array Value):Win F f b c (c.map (rnV f)):=⟨fun _=>rfl,fun _=>⟨by simp,fun i _ _=>by simp⟩⟩
def Alike(F:Fx)(f:Nat→Nat)(b:Nat):Obj→Obj→Prop
 | .cells c t z,o=>∃c' t' z',o = .cells c' t' z'∧Win F f b c c'∧(¬F.cl b→t'=t)∧(F.cl b∨z'=z∨z'=(0,0))
 | .number a l,o=>o = .number (rnA f a) l
 | _,_=>False
structure Cl(S:Nat→Prop)(F:Fx)(V:World):Prop where
 blk:∀b,S b→b<V.heap.size→∃o,V.heap[b]?=some o∧OOk S F o
 nxt:∀b,V.heap.size≤b→S b∧¬F.cl b
 wt:∀b,F.cl b→∃c,V.heap[b]?=some (.cells c F.wt (0,c.size))
structure Sim(S:Nat→Prop)(F:Fx)(f:Nat→Nat)(V W:World):Prop where
 cl:Cl S F V
 blk:∀b o,S b→V.heap[b]?=some o→∃o',W.heap[f b]?=some o'∧Alike F f b o o'
 inj:∀a b,S a→S b→f a=f b→a=b
 nxt:∀b,V.heap.size≤b→f b=W.heap.size+(b-V.heap.size)
def Frz(V:World)(x:Nat):Prop:=∃c t,V.heap[x]?=some (.cells c t (0,c.size))
def rnE(f:Nat→Nat)(e:Event):Event:=
 { e with loc:=match e.loc with | .cell a=> .cell (rnA f a) | .obj r=> .obj (f r)|l=>l }
def EvS(S:Nat→Prop)(V V':World)(e:Event):Prop:=
 match e.loc with
 | .cell a=>S a.block∧a.block<V'.heap.size∧e.sync=false∧(e.write=true→¬Frz V a.block)
 | .obj r=>S r∧r<V'.heap.size∧e.write=false∧e.sync=false
 | .mark m=>Bare m
 | _=>False
structure Both(S:Nat→Prop)(f:Nat→Nat)(V V' W W':World):Prop where
 tapeV:V'.tape=V.tape
 osV:V'.os=V.os
 outV:V'.output=V.output
 tape:W'.tape=W.tape
 os:W'.os=W.os
 out:W'.output=W.output
 le:V.heap.size≤V'.heap.size
 size:W'.heap.size=W.heap.size+(V'.heap.size-V.heap.size)
 dr:V.drawn≤V'.drawn
 drawn:W'.drawn=W.drawn+(V'.drawn-V.drawn)
 other:∀b,b<W.heap.size→(∀x,S x→x<V.heap.size→f x≠b)→W'.heap[b]?=W.heap[b]?
 froz:∀x,S x→x<V.heap.size→Frz V x→V'.heap[x]?=V.heap[x]?∧W'.heap[f x]?=W.heap[f x]?
 away:∀x,x<V.heap.size→¬S x→V'.heap[x]?=V.heap[x]?
section
variable {P:Program}{S:Nat→Prop}{F:Fx}{f:Nat→Nat}{α:Type}{R:α→α→Prop}{V V' W:World}
theorem lt_of_some {w:World}{b:Nat}{o:Obj}(h:w.heap[b]?=some o):b<w.heap.size:=(Array.getElem?_eq_some_iff.1 h).1
theorem Both.refl(V W:World):Both S f V V W W:=⟨rfl,rfl,rfl,rfl,rfl,rfl,Nat.le_refl _,by omega,Nat.le_refl _,by omega,fun _ _ _=>rfl,fun _ _ _ _=>⟨rfl,rfl⟩,fun _ _ _=>rfl⟩
theorem Both.trans {V1 V2 V3 W1 W2 W3:World}(hn:∀b,V1.heap.size≤b→f b=W1.heap.size+(b-V1.heap.size))(h:Both S f V1 V2 W1 W2)(k:Both S f V2 V3 W2 W3):Both S f V1 V3 W1 W3 where
 tapeV:=k.tapeV.trans h.tapeV
 osV:=k.osV.trans h.osV
 outV:=k.outV.trans h.outV
 tape:=k.tape.trans h.tape
 os:=k.os.trans h.os
 out:=k.out.trans h.out
 le:=Nat.le_trans h.le k.le
 size:=by have:=h.le;have:=k.le;have:=h.size;have:=k.size;omega
 dr:=Nat.le_trans h.dr k.dr
 drawn:=by have:=h.dr;have:=k.dr;have:=h.drawn;have:=k.drawn;omega
 other:=fun b hb hx=>by
  refine(k.other b (by have:=h.size;omega) fun x hs hl=>?_).trans (h.other b hb hx)
  by_cases hv:x<V1.heap.size
  ·exact hx x hs hv
  ·rw[hn x (by omega)];omega
 froz:=fun x hs hl hz=>by
  have a:=h.froz x hs hl hz
  have hz2:Frz V2 x:=by obtain⟨c,t,e⟩:=hz;exact⟨c,t,a.1.trans e⟩
  have b:=k.froz x hs (Nat.lt_of_lt_of_le hl h.le) hz2
  exact⟨b.1.trans a.1,b.2.trans a.2⟩
 away:=fun x hl hs=>(k.away x (Nat.lt_of_lt_of_le hl h.le) hs).trans (h.away x hl hs)
theorem EvS.later {V1 V2 V3:World}(hfr:∀x,S x→x<V1.heap.size→Frz V1 x→Frz V2 x){e:Event}(h:EvS S V2 V3 e):EvS S V1 V3 e:=by
 unfold EvS at h ⊢
 split at h<;>try exact h
 refine⟨h.1,h.2.1,h.2.2.1,fun hw hz=>h.2.2.2 hw ?_⟩
 refine hfr _ h.1 ?_ hz
 obtain⟨c,t,e⟩:=hz
 exact lt_of_some e
theorem EvS.wider {V1 V2 V3:World}(hle:V2.heap.size≤V3.heap.size){e:Event}(h:EvS S V1 V2 e):EvS S V1 V3 e:=by
 unfold EvS at h ⊢
 split at h<;>try exact h
 ·exact⟨h.1,Nat.lt_of_lt_of_le h.2.1 hle,h.2.2⟩
 ·exact⟨h.1,Nat.lt_of_lt_of_le h.2.1 hle,h.2.2⟩
theorem load_cell {a:Addr}{v:Value}(h:V.cell? a=some v):∃c t z,V.heap[a.block]?=some (.cells c t z)∧a.spot=none∧c[a.off]?=some v:=by
 unfold World.cell? at h
 split at h
 ·rename_i c t z e
  split at h
  ·cases h
  ·rename_i hs
   exact⟨c,t,z,e,by simpa using hs,h⟩
 ·cases h
theorem Cl.ok_cell(h:Cl S F V){a:Addr}(hs:S a.block){v:Value}(hc:V.cell? a=some v):VOk S F v:=by
 obtain⟨c,t,z,e,_,hv⟩:=load_cell hc
 obtain⟨o,ho,hk⟩:=h.blk _ hs (lt_of_some e)
 rw[e]at ho
 cases ho
 exact hk _ (Array.mem_of_getElem? hv)
theorem far_none {w:World}(p:Program){a:Addr}{b:Bool}(hs:∀at_ u,w.heap[a.block]?≠some (.view at_ u)):∃h,w.farLoad p a b = .error h:=by
 unfold World.farLoad
 split
 ·rename_i x y e;exact absurd e (hs x y)
 ·exact⟨_,rfl⟩
theorem far_none' {w:World}(p:Program){a:Addr}{v:Value}{b:Bool}(hs:∀at_ u,w.heap[a.block]?≠some (.view at_ u)):∃h,w.farStore p a v b = .error h:=by
 unfold World.farStore
 split
 ·rename_i x y e;exact absurd e (hs x y)
 ·exact⟨_,rfl⟩
theorem Cl.noView(h:Cl S F V){b:Nat}(hs:S b):∀at_ u,V.heap[b]?≠some (.view at_ u):=by
 intro x y e
 obtain⟨o,ho,hk⟩:=h.blk _ hs (lt_of_some e)
 rw[e]at ho
 cases ho
 exact hk
theorem cell_sim(h:Sim S F f V W){a:Addr}(hs:AOk S F a){v:Value}(hc:V.cell? a=some v):W.cell? (rnA f a)=some (rnV f v):=by
 obtain⟨c,t,z,e,hsp,hv⟩:=load_cell hc
 obtain⟨o',he,hal⟩:=h.blk _ _ hs.1 e
 obtain⟨c',t',z',rfl,hw,_⟩:=hal
 simp[World.cell?,rnA,he,hsp,hw.get hs.2 hv]
theorem frozen_sim(h:Sim S F f V W){a:Addr}(hs:S a.block){v:Value}(hc:V.cell? a=some v)(hf:V.frozen? a=false):W.frozen? (rnA f a)=false:=by
 obtain⟨c,t,z,e,_,hv⟩:=load_cell hc
 obtain⟨o',he,hal⟩:=h.blk _ _ hs e
 obtain⟨c',t',z',rfl,_,_,hz⟩:=hal
 unfold World.frozen? at hf ⊢
 rw[e]at hf
 show(match W.heap[f a.block]? with|some (.cells _ _ (lo,hi))=>decide (lo≤a.off) && decide (a.off<hi)|_=>false)=false
 rw[he]
 rcases hz with q|rfl|rfl
 ·exfalso
  obtain⟨c2,e2⟩:=h.cl.wt _ q
  rw[e]at e2
  cases e2
  have hl:=(Array.getElem?_eq_some_iff.1 hv).1
  simp[hl]at hf
 ·exact hf
 ·simp
theorem heap_setCell(w:World)(a:Addr)(v:Value)(b:Nat):(w.setCell a v).heap[b]?=if b=a.block then(w.heap[b]?).map (fun | .cells c t z=> .cells (if a.spot.isSome then c else c.setIfInBounds a.off v) t z|o=>o)else w.heap[b]?:=by
 unfold World.setCell
 simp only[Array.getElem?_modify]
 by_cases e:a.block=b
 ·rw[if_pos e,if_pos e.symm];rfl
 ·rw[if_neg e,if_neg (Ne.symm e)]
theorem size_setCell(w:World)(a:Addr)(v:Value):(w.setCell a v).heap.size=w.heap.size:=by simp[World.setCell]
theorem Cl.setCell(h:Cl S F V){a:Addr}{v:Value}(hv:VOk S F v):Cl S F (V.setCell a v):=by
 refine⟨fun b hb hl=>?_,fun b hl=>h.nxt b (by rw[size_setCell]at hl;exact hl),fun b hb=>?_⟩
 rotate_left
 ·obtain⟨c,e⟩:=h.wt b hb
  rw[heap_setCell]
  split
  ·rw[e]
   refine⟨if a.spot.isSome then c else c.setIfInBounds a.off v,?_⟩
   split<;>simp
  ·exact⟨c,e⟩
 rw[size_setCell]at hl
 obtain⟨o,ho,hk⟩:=h.blk b hb hl
 rw[heap_setCell]
 split
 ·rw[ho]
  refine⟨_,rfl,?_⟩
  cases o with
  | cells c t z=>
   show ∀x,x∈(if a.spot.isSome then c else c.setIfInBounds a.off v)→VOk S F x
   intro x hx
   split at hx
   ·exact hk x hx
   ·rcases Array.mem_or_eq_of_mem_setIfInBounds hx with hx|rfl
    ·exact hk x hx
    ·exact hv
  | number _ _=>exact hk
  | _=>exact hk.elim
 ·exact⟨o,ho,hk⟩
theorem Cl.push(h:Cl S F V){o:Obj}(ho:OOk S F o):Cl S F { V with heap:=V.heap.push o }:=by
 refine⟨fun b hb hl=>?_,fun b hl=>h.nxt b (by simp at hl;omega),fun b hb=>?_⟩
 rotate_left
 ·obtain⟨c,e⟩:=h.wt b hb
  refine⟨c,?_⟩
  show(V.heap.push o)[b]?=_
  rw[Array.getElem?_push,if_neg (by have:=lt_of_some e;omega)]
  exact e
 simp only[Array.size_push]at hl
 show ∃o',(V.heap.push o)[b]?=some o'∧_
 rw[Array.getElem?_push]
 split
 ·exact⟨o,rfl,ho⟩
 ·exact h.blk b hb (by omega)
theorem Cl.drew(h:Cl S F V)(n:Nat):Cl S F { V with drawn:=n }:=⟨h.blk,h.nxt,h.wt⟩
theorem runT_load_ok {m:Mode}{a:Addr}{k:Value→Sem α}{es es1:Array Event}{x:α}(hn:∀at_ u, V.heap[a.block]?≠some (.view at_ u))(hr:(Sem.load m a k).runT P V es=(.ok x V', es1)) :
  ∃v,V.cell? a=some v∧(k v).runT P V (es.push ⟨.cell a,false,m == .atomic⟩)=(.ok x V',es1):=by
 simp only[Sem.runT]at hr
 split at hr
 ·rename_i v hv
  exact⟨v,hv,hr⟩
 ·obtain⟨h,e⟩:=far_none (b:=m == .atomic) P hn
  rw[e]at hr
  cases hr
theorem runT_load_eq {m:Mode}{a:Addr}{k:Value→Sem α}{es:Array Event}{v:Value}(hc:V.cell? a=some v):(Sem.load m a k).runT P V es=(k v).runT P V (es.push ⟨.cell a,false,m == .atomic⟩):=by
 simp only[Sem.runT,hc]
theorem mode_plain:(Mode.plain == Mode.atomic)=false:=rfl
def One:Value→Prop
 |.agg _ | .tuple _=>False
 | _=>True
theorem One.rn {v:Value}(h:One v):One (rnV f v):=by cases v<;>simp[One,rnV]at h ⊢
theorem runT_store_eq {m:Mode}{a:Addr}{v old:Value}{k:Sem α}{es:Array Event}(hv:One v)(hc:V.cell? a=some old)(hf:V.frozen? a=false):(Sem.store m a v k).runT P V es=k.runT P (V.setCell a v) (es.push ⟨.cell a,true,m == .atomic⟩):=by
 cases v<;>simp[Sem.runT,hc,hf]<;>exact hv.elim
theorem runT_store_ok {m:Mode}{a:Addr}{v:Value}{k:Sem α}{es es1:Array Event}{x:α}(hn:∀at_ u, V.heap[a.block]?≠some (.view at_ u))(hr:(Sem.store m a v k).runT P V es=(.ok x V', es1)) :
  One v∧∃old,V.cell? a=some old∧V.frozen? a=false∧k.runT P (V.setCell a v) (es.push ⟨.cell a,true,m == .atomic⟩)=(.ok x V',es1):=by
 have h1:One v:=by
  cases v<;>first|trivial|(simp[Sem.runT]at hr)
 refine⟨h1,?_⟩
 cases hc:V.cell? a with
 | none=>
  obtain⟨h,e⟩:=far_none' (v:=v) (b:=m == .atomic) P hn
  cases v<;>simp[Sem.runT,hc,e]at hr
 | some old=>
  cases hf:V.frozen? a with
  | true=>cases v<;>simp[Sem.runT,hc,hf]at hr
  | false=>exact⟨old,rfl,rfl,by rw[←runT_store_eq h1 hc hf];exact hr⟩
theorem runT_get_ok {r:Nat}{k:Obj→Sem α}{es es1:Array Event}{x:α}(hr:(Sem.getObj r k).runT P V es=(.ok x V', es1)) :
  ∃o,V.heap[r]?=some o∧(∀c t z,o ≠ .cells c t z)∧(k o).runT P V (es.push ⟨.obj r,false,o.isChan⟩)=(.ok x V',es1):=by
 simp only[Sem.runT]at hr
 split at hr
 ·cases hr
 ·rename_i o ho e
  exact⟨o,e,fun c t z h=>ho c t z h,hr⟩
 ·cases hr
theorem runT_get_eq {r:Nat}{k:Obj→Sem α}{es:Array Event}{o:Obj}(ho:V.heap[r]?=some o)(hc:∀c t z,o ≠ .cells c t z):(Sem.getObj r k).runT P V es=(k o).runT P V (es.push ⟨.obj r,false,o.isChan⟩):=by
 cases o<;>first|exact absurd rfl (hc _ _ _)|simp only[Sem.runT,ho]
theorem Dead.no {s:Sem α}(h:Dead P s){es es1:Array Event}{a:α}(hr:s.runT P V es=(.ok a V',es1)):False:=by
 obtain⟨x,w,t,_,e⟩:=h V es
 rw[e]at hr
 cases hr
theorem Cl.shr(h:Cl S F V)(r:Nat):ShR F r (V.shape? r) (V.shape? r):=by
 refine⟨fun _=>rfl,fun q=>?_⟩
 obtain⟨c,e⟩:=h.wt r q
 have e2:V.shape? r=some (F.wt,c.size):=by unfold World.shape?;rw[e]
 exact⟨_,_,e2,e2⟩
theorem SR.draws {s s':Sem α}(h:SR P S F f R s s')(hV:Cl S F V){es es1:Array Event}{a:α}(hr:s.runT P V es=(.ok a V',es1)):V.drawn≤V'.drawn:=by
 induction s generalizing s' V es with
 | pure x=>simp only[Sem.runT,Prod.mk.injEq,Result.ok.injEq]at hr;obtain⟨⟨_,rfl⟩,_⟩:=hr;exact Nat.le_refl _
 | load m x c ih=>
  rcases h with h|⟨c',rfl,hm,hs,hc⟩
  ·exact(h.no hr).elim
  ·obtain⟨v,hv,hr⟩:=runT_load_ok (hV.noView hs.1) hr
   exact ih v (hc v (hV.ok_cell hs.1 hv)) hV hr
 | store m x v c ih=>
  rcases h with h|⟨c',rfl,hm,hs,hv,hc⟩
  ·exact(h.no hr).elim
  ·obtain⟨_,old,_,_,hr⟩:=runT_store_ok (hV.noView hs.1) hr
   have:=ih hc (hV.setCell hv) hr
   exact this
 | new o c ih=>
  rcases h with h|⟨c',rfl,ho,hc⟩
  ·exact(h.no hr).elim
  ·simp only[Sem.runT]at hr
   have hn:=hV.nxt _ (Nat.le_refl _)
   have:=ih _ (hc _ hn.1 hn.2) (hV.push ho) hr
   exact this
 | shape r c ih=>
  rcases h with h|⟨c',rfl,hs,hc⟩
  ·exact(h.no hr).elim
  ·simp only[Sem.runT]at hr
   exact ih _ (hc _ _ (hV.shr r)) hV hr
 | getObj r c ih=>
  rcases h with h|⟨c',rfl,hs,hc⟩
  ·exact(h.no hr).elim
  ·obtain⟨o,ho,_,hr⟩:=runT_get_ok hr
   obtain⟨o',ho',hk⟩:=hV.blk r hs (lt_of_some ho)
   rw[ho]at ho';cases ho'
   exact ih _ (hc _ hk) hV hr
 | choose q c ih=>
  rcases h with h|⟨c',rfl,hc⟩
  ·exact(h.no hr).elim
  ·simp only[Sem.runT]at hr
   split at hr
   ·exact ih _ (hc _) hV hr
   ·exact Nat.le_trans (Nat.le_succ _) (ih _ (hc _) (hV.drew _) hr)
 | program c ih=>
  rcases h with h|⟨c',rfl,hc⟩
  ·exact(h.no hr).elim
  ·simp only[Sem.runT]at hr
   exact ih _ hc hV hr
 | mark m c ih=>
  rcases h with h|⟨c',rfl,hb,hc⟩
  ·exact(h.no hr).elim
  ·simp only[Sem.runT]at hr
   exact ih hc hV hr
 | freeze a n c _=>exact(Dead.no (s:= .freeze a n c) h hr).elim
 | frozen a c _=>exact(Dead.no (s:= .frozen a c) h hr).elim
 | setObj r o c _=>exact(Dead.no (s:= .setObj r o c) h hr).elim
 | sys c k2 _=>exact(Dead.no (s:= .sys c k2) h hr).elim
 | halt x=>simp[Sem.runT]at hr
theorem Alike.obj {b:Nat}{o o':Obj}(h:Alike F f b o o')(hc:∀c t z,o ≠ .cells c t z):o'=rnO f o∧(∀c t z,o' ≠ .cells c t z)∧o'.isChan=false∧o.isChan=false:=by
 cases o with
 | cells c t z=>exact absurd rfl (hc c t z)
 | number a l=>cases h;exact⟨rfl,(fun _ _ _ h=>by cases h),rfl,rfl⟩
 | _=>exact h.elim
theorem shape_sim(h:Sim S F f V W){r:Nat}(hs:S r):ShR F r (V.shape? r) (W.shape? (f r)):=by
 by_cases hl:r<V.heap.size
 ·obtain⟨o,ho,_⟩:=h.cl.blk r hs hl
  obtain⟨o',ho',hal⟩:=h.blk r o hs ho
  refine⟨fun q=>?_,fun q=>?_⟩
  ·unfold World.shape?
   rw[ho,ho']
   cases o with
   | cells c t z=>
    obtain⟨c',t',z',rfl,hw,ht,_⟩:=hal
    simp[hw.1 q,ht q]
   | number a l=>cases hal;rfl
   | _=>exact hal.elim
  ·obtain⟨c,e⟩:=h.cl.wt r q
   rw[ho]at e
   cases e
   obtain⟨c',t',z',rfl,_⟩:=hal
   exact⟨c.size,(t',c'.size),by unfold World.shape?;rw[ho],by unfold World.shape?;rw[ho']⟩
 ·have e:=h.nxt r (by omega)
  have e1:V.heap[r]?=none:=by rw[Array.getElem?_eq_none_iff];omega
  have e2:W.heap[f r]?=none:=by rw[Array.getElem?_eq_none_iff];omega
  have q:=(h.cl.nxt r (by omega)).2
  refine⟨fun _=>?_,fun c=>absurd c q⟩
  unfold World.shape?
  rw[e1,e2]
theorem Sim.setCell(h:Sim S F f V W){a:Addr}{v:Value}(hs:S a.block)(hv:VOk S F v):Sim S F f (V.setCell a v) (W.setCell (rnA f a) (rnV f v)):=by
 refine⟨h.cl.setCell hv,fun b o hb ho=>?_,h.inj,fun b hb=>by rw[size_setCell]at hb ⊢;rw[size_setCell];exact h.nxt b hb⟩
 rw[heap_setCell]at ho
 rw[heap_setCell]
 by_cases e:b=a.block
 ·subst e
  rw[if_pos rfl]at ho
  rw[if_pos (show f a.block=(rnA f a).block from rfl)]
  obtain⟨o1,ho1,rfl⟩:=Option.map_eq_some_iff.1 ho
  obtain⟨o',ho',hal⟩:=h.blk _ _ hs ho1
  rw[ho']
  refine⟨_,rfl,?_⟩
  cases o1 with
  | cells c t z=>
   obtain⟨c',t',z',rfl,hw,ht,hz⟩:=hal
   refine⟨_,t',z',rfl,?_,ht,hz⟩
   show Win F f a.block (if a.spot.isSome then c else c.setIfInBounds a.off v) (if a.spot.isSome then c' else c'.setIfInBounds a.off (rnV f v))
   split
   ·exact hw
   ·exact hw.set _ _
  | number x l=>cases hal;rfl
  | _=>exact hal.elim
 ·rw[if_neg e]at ho
  have e':f b≠(rnA f a).block:=fun x=>e (h.inj _ _ hb hs x)
  rw[if_neg e']
  exact h.blk b o hb ho
theorem alike_rn {o:Obj}(h:OOk S F o)(b:Nat):Alike F f b o (rnO f o):=by
 cases o with
 | cells c t z=>exact⟨_,t,z,rfl,win_rn F f b c,fun _=>rfl,Or.inr (Or.inl rfl)⟩
 | number a l=>rfl
 | _=>exact h.elim
theorem Sim.push(h:Sim S F f V W){o:Obj}(ho:OOk S F o):Sim S F f { V with heap:=V.heap.push o } { W with heap:=W.heap.push (rnO f o)}:=by
 refine⟨h.cl.push ho,fun b x hb hx=>?_,h.inj,fun b hb=>?_⟩
 ·have hx:(V.heap.push o)[b]?=some x:=hx
  show ∃o',(W.heap.push (rnO f o))[f b]?=some o'∧_
  rw[Array.getElem?_push]at hx ⊢
  split at hx
  ·rename_i e
   cases hx
   have:=h.nxt b (by omega)
   rw[if_pos (by omega)]
   exact⟨_,rfl,alike_rn ho b⟩
  ·obtain⟨o',ho',hal⟩:=h.blk b x hb hx
   have:=lt_of_some ho'
   rw[if_neg (by omega)]
   exact⟨o',ho',hal⟩
 ·simp only[Array.size_push]at hb ⊢
  rw[h.nxt b (by omega)]
  omega
theorem Sim.drew(h:Sim S F f V W)(n m:Nat):Sim S F f { V with drawn:=n } { W with drawn:=m }:=⟨h.cl.drew n,h.blk,h.inj,h.nxt⟩
theorem frz_step {a:Addr}{old:Value}(hc:V.cell? a=some old)(hf:V.frozen? a=false):¬Frz V a.block:=by
 rintro⟨c,t,e⟩
 obtain⟨c',t',z',e',_,hv⟩:=load_cell hc
 rw[e]at e'
 cases e'
 have hl:a.off<c.size:=(Array.getElem?_eq_some_iff.1 hv).1
 unfold World.frozen? at hf
 rw[e]at hf
 simp[hl]at hf
theorem Both.setCell(h:Sim S F f V W){a:Addr}{v old:Value}(hs:S a.block)(hc:V.cell? a=some old)(hf:V.frozen? a=false):Both S f V (V.setCell a v) W (W.setCell (rnA f a) (rnV f v)):=by
 obtain⟨c,t,z,e,_,_⟩:=load_cell hc
 refine⟨rfl,rfl,rfl,rfl,rfl,rfl,by rw[size_setCell];exact Nat.le_refl _,by rw[size_setCell,size_setCell];omega,Nat.le_refl _,by show W.drawn=W.drawn+(V.drawn-V.drawn);omega,fun b _ hx=>?_,fun x hx hl hz=>?_,fun x hl hx=>?_⟩
 ·rw[heap_setCell,if_neg (fun x=>hx a.block hs (lt_of_some e) x.symm)]
 ·have hne:x≠a.block:=fun y=>frz_step hc hf (y▸hz)
  have hne':f x≠(rnA f a).block:=fun y=>hne (h.inj _ _ hx hs y)
  rw[heap_setCell,heap_setCell,if_neg hne,if_neg hne']
  exact⟨rfl,rfl⟩
 ·have hne:x≠a.block:=fun y=>hx (by rw[y];exact hs)
  rw[heap_setCell,if_neg hne]
theorem Both.push(h:Sim S F f V W)(o o':Obj):Both S f V { V with heap:=V.heap.push o } W { W with heap:=W.heap.push o' }:=by
 refine⟨rfl,rfl,rfl,rfl,rfl,rfl,by simp,by simp,Nat.le_refl _,by show W.drawn=W.drawn+(V.drawn-V.drawn);omega,fun b hb _=>?_,fun x hx hl hz=>?_,fun x hl _=>?_⟩
 ·show(W.heap.push o')[b]?=_
  rw[Array.getElem?_push,if_neg (by omega)]
 ·obtain⟨c,t,e⟩:=hz
  obtain⟨o2,ho2,_⟩:=h.blk x _ hx e
  have:=lt_of_some ho2
  refine⟨?_,?_⟩
  ·show(V.heap.push o)[x]?=_
   rw[Array.getElem?_push,if_neg (by omega)]
  ·show(W.heap.push o')[f x]?=_
   rw[Array.getElem?_push,if_neg (by omega)]
 ·show(V.heap.push o)[x]?=_
  rw[Array.getElem?_push,if_neg (by omega)]
theorem run_join {V1 W1:World}{s1:Sem α}{es es1 es2:Array Event}{a:α}{e:Array Event}(hV:Sim S F f V W)(hB:Both S f V V1 W W1)(he:∀x, x∈e→EvS S V V1 x)(hes:es2=es++e)
  (h:∃(a':α) (W':World) (E:Array Event),es1=es2++E∧(∀es',s1.runT P W1 es'=(.ok a' W',es'++E.map (rnE f)))∧R a a'∧Sim S F f V' W'∧Both S f V1 V' W1 W'∧∀e,e∈E→EvS S V1 V' e)
  {s':Sem α} (hs':∀es',s'.runT P W es'=s1.runT P W1 (es'++e.map (rnE f))) :
  ∃(a':α) (W':World) (E:Array Event),es1=es++E∧(∀es',s'.runT P W es'=(.ok a' W',es'++E.map (rnE f)))∧R a a'∧Sim S F f V' W'∧Both S f V V' W W'∧∀e,e∈E→EvS S V V' e:=by
 obtain⟨a',W',E,h1,h2,h3,h4,h5,h6⟩:=h
 refine⟨a',W',e++E,by rw[h1,hes,Array.append_assoc],fun es'=>by rw[hs',h2];simp,h3,h4,hB.trans hV.nxt h5,fun x hx=>?_⟩
 rcases Array.mem_append.1 hx with hx|hx
 ·exact(he x hx).wider h5.le
 ·refine(h6 x hx).later fun y hy hl hz=>?_
  obtain⟨c,t,ez⟩:=hz
  exact⟨c,t,(hB.froz y hy hl ⟨c,t,ez⟩).1.trans ez⟩
theorem SR.run {s s':Sem α}(h:SR P S F f R s s')(hV:Sim S F f V W){es es1:Array Event}{a:α}(hr:s.runT P V es=(.ok a V', es1))(ha:∀i q, V.drawn≤i→i<V'.drawn→V.tape i q=W.tape (W.drawn+(i-V.drawn)) q) :
  ∃(a':α) (W':World) (E:Array Event),es1=es++E∧(∀es',s'.runT P W es'=(.ok a' W',es'++E.map (rnE f)))∧R a a'∧Sim S F f V' W'∧Both S f V V' W W'∧∀e,e∈E→EvS S V V' e:=by
 induction s generalizing s' V W es with
 | pure x=>
  obtain⟨a',rfl,hR⟩:=h
  simp only[Sem.runT,Prod.mk.injEq,Result.ok.injEq]at hr
  obtain⟨⟨rfl,rfl⟩,rfl⟩:=hr
  exact⟨a',W, #[],by simp,fun es'=>by simp[Sem.runT],hR,hV,Both.refl V W,fun e he=>by simp at he⟩
 | load m x c ih=>
  rcases h with h|⟨c',rfl,rfl,hs,hc⟩
  ·exact(h.no hr).elim
  ·obtain⟨v,hv,hr⟩:=runT_load_ok (hV.cl.noView hs.1) hr
   obtain⟨_,_,_,ex,_,_⟩:=load_cell hv
   refine run_join hV (Both.refl V W) (e := #[⟨.cell x,false,false⟩]) (fun y hy=>?_) rfl (ih v (hc v (hV.cl.ok_cell hs.1 hv)) hV hr ha) (fun es'=>by rw[runT_load_eq (cell_sim hV hs hv),mode_plain];simp[rnE])
   have hy:y=⟨.cell x,false,false⟩:=by simpa using hy
   subst hy
   exact⟨hs.1,lt_of_some ex,rfl,fun z=>by cases z⟩
 | store m x v c ih=>
  rcases h with h|⟨c',rfl,rfl,hs,hv,hc⟩
  ·exact(h.no hr).elim
  ·obtain⟨h1,old,ho,hf,hr⟩:=runT_store_ok (hV.cl.noView hs.1) hr
   obtain⟨_,_,_,ex,_,_⟩:=load_cell ho
   refine run_join hV (Both.setCell (v:=v) hV hs.1 ho hf) (e := #[⟨.cell x,true,false⟩]) (fun y hy=>?_) rfl (ih hc (hV.setCell hs.1 hv) hr ha) (fun es'=>by rw[runT_store_eq h1.rn (cell_sim hV hs ho) (frozen_sim hV hs.1 ho hf),mode_plain];simp[rnE])
   have hy:y=⟨.cell x,true,false⟩:=by simpa using hy
   subst hy
   exact⟨hs.1,by rw[size_setCell];exact lt_of_some ex,rfl,fun _=>frz_step ho hf⟩
 | new o c ih=>
  rcases h with h|⟨c',rfl,ho,hc⟩
  ·exact(h.no hr).elim
  ·simp only[Sem.runT]at hr
   have hn:=hV.cl.nxt _ (Nat.le_refl V.heap.size)
   have e0:f V.heap.size=W.heap.size:=by rw[hV.nxt _ (Nat.le_refl _)];omega
   exact run_join hV (Both.push hV o (rnO f o)) (e := #[]) (fun y hy=>by simp at hy) (by simp) (ih _ (hc _ hn.1 hn.2) (hV.push ho) hr ha) (fun es'=>by simp[Sem.runT,e0])
 | shape r c ih=>
  rcases h with h|⟨c',rfl,hs,hc⟩
  ·exact(h.no hr).elim
  ·simp only[Sem.runT]at hr
   exact run_join hV (Both.refl V W) (e := #[]) (fun y hy=>by simp at hy) (by simp) (ih _ (hc _ _ (shape_sim hV hs)) hV hr ha) (fun es'=>by simp[Sem.runT])
 | getObj r c ih=>
  rcases h with h|⟨c',rfl,hs,hc⟩
  ·exact(h.no hr).elim
  ·obtain⟨o,ho,hn,hr⟩:=runT_get_ok hr
   obtain⟨o1,ho1,hk⟩:=hV.cl.blk r hs (lt_of_some ho)
   rw[ho]at ho1;cases ho1
   obtain⟨o',ho',hal⟩:=hV.blk r o hs ho
   obtain⟨rfl,hn',hc1,hc2⟩:=hal.obj hn
   refine run_join hV (Both.refl V W) (e := #[⟨.obj r,false,o.isChan⟩]) (fun y hy=>?_) rfl (ih _ (hc _ hk) hV hr ha) (fun es'=>by rw[runT_get_eq ho' hn'];simp[rnE,hc1,hc2])
   have hy:y=⟨.obj r,false,o.isChan⟩:=by simpa using hy
   subst hy
   exact⟨hs,lt_of_some ho,rfl,hc2⟩
 | choose q c ih=>
  rcases h with h|⟨c',rfl,hc⟩
  ·exact(h.no hr).elim
  ·simp only[Sem.runT]at hr
   split at hr
   ·rename_i hq
    exact run_join hV (Both.refl V W) (e := #[]) (fun y hy=>by simp at hy) (by simp) (ih _ (hc _) hV hr ha) (fun es'=>by simp[Sem.runT,hq])
   ·rename_i hq
    have hd:=SR.draws (hc _) (hV.cl.drew _) hr
    have hd:V.drawn+1≤V'.drawn:=hd
    have e0:V.tape V.drawn q=W.tape W.drawn q:=by
     have:=ha V.drawn q (Nat.le_refl _) (by omega)
     simpa using this
    refine run_join hV (V1:={ V with drawn:=V.drawn+1 }) (W1:={ W with drawn:=W.drawn+1 }) ?_ (e := #[]) (fun y hy=>by simp at hy) (by simp) (ih _ (hc _) (hV.drew _ _) hr fun i q h1 h2=>?_) (fun es'=>by simp[Sem.runT,hq,e0])
    ·exact⟨rfl,rfl,rfl,rfl,rfl,rfl,Nat.le_refl _,by show W.heap.size=W.heap.size+(V.heap.size-V.heap.size);omega,Nat.le_succ _,by show W.drawn+1=W.drawn+(V.drawn+1-V.drawn);omega,fun _ _ _=>rfl,fun _ _ _ _=>⟨rfl,rfl⟩,fun _ _ _=>rfl⟩
    ·have h1:V.drawn+1≤i:=h1
     show V.tape i q=W.tape (W.drawn+1+(i-(V.drawn+1))) q
     rw[ha i q (by omega) h2]
     congr 1
     omega
 | program c ih=>
  rcases h with h|⟨c',rfl,hc⟩
  ·exact(h.no hr).elim
  ·simp only[Sem.runT]at hr
   exact run_join hV (Both.refl V W) (e := #[]) (fun y hy=>by simp at hy) (by simp) (ih _ hc hV hr ha) (fun es'=>by simp[Sem.runT])
 | mark m c ih=>
  rcases h with h|⟨c',rfl,hb,hc⟩
  ·exact(h.no hr).elim
  ·simp only[Sem.runT]at hr
   refine run_join hV (Both.refl V W) (e := #[⟨.mark m,false,true⟩]) (fun y hy=>?_) rfl (ih hc hV hr ha) (fun es'=>by simp[Sem.runT,rnE])
   have hy:y=⟨.mark m,false,true⟩:=by simpa using hy
   subst hy
   exact hb
 | freeze a n c _=>exact(Dead.no (s:= .freeze a n c) h hr).elim
 | frozen a c _=>exact(Dead.no (s:= .frozen a c) h hr).elim
 | setObj r o c _=>exact(Dead.no (s:= .setObj r o c) h hr).elim
 | sys c k2 _=>exact(Dead.no (s:= .sys c k2) h hr).elim
 | halt x=>simp[Sem.runT]at hr
end
end
section
def VR(S:Nat→Prop)(F:Fx)(f:Nat→Nat)(v v':Value):Prop:=VOk S F v∧v'=rnV f v
def AR(S:Nat→Prop)(F:Fx)(f:Nat→Nat)(a a':Addr):Prop:=AOk S F a∧a'=rnA f a
def NR(S:Nat→Prop)(F:Fx)(f:Nat→Nat):Next→Next→Prop
 | .value v,n=>VOk S F v∧n = .value (rnV f v)
 | .skip,n=>n = .skip
 | .enter g args,n=>F.fn g∧(∀v,v∈args→VOk S F v)∧n = .enter g (args.map (rnV f))
 | _,_=>False
def noFx:Fx:=⟨fun _=>False,fun _=>0,fun _=>False,0⟩
def NoB:Value→Prop:=VOk (fun _=>False) noFx
theorem NoB.ok {v:Value}(h:NoB v)(S:Nat→Prop)(F:Fx):VOk S F v:=by
 have:∀ {v:Value},VOk (fun _=>False) noFx v→VOk S F v:=by
  intro v
  induction v using rnV.induct with
  | case1 a=>intro h;rw[VOk]at h ⊢;exact fun x e=>(h x e).1.elim
  | case2 a n c=>intro h;rw[VOk]at h ⊢;exact fun x e=>(h x e).1.elim
  | case3 fn a b h1 h2=>intro h;rw[VOk]at h;obtain⟨⟨g,_,hg⟩,_⟩:=h;exact hg.elim
  | case4 cs ih=>intro h;rw[VOk]at h ⊢;exact fun v hv=>ih v hv (h v hv)
  | case5 cs ih=>intro h;rw[VOk]at h ⊢;exact fun v hv=>ih v hv (h v hv)
  | case6 v h1 h2 h3 h4 h5=>
   intro h
   cases v<;>first|exact absurd rfl (h1 _)|exact absurd rfl (h2 _ _ _)|exact absurd rfl (h3 _ _ _)|exact absurd rfl (h4 _)|exact absurd rfl (h5 _)|(simp[VOk]at h ⊢)
 exact this h
theorem NoB.rn {v:Value}(h:NoB v)(f:Nat→Nat):rnV f v=v:=(rnV_congr (g:=id) (fun _ hb=>hb.elim) h).trans (rnV_id h)
section
variable {P:Program}{S:Nat→Prop}{F:Fx}{f:Nat→Nat}{α β:Type}{R:α→α→Prop}
def NH(P:Program){α:Type}(s:Sem α):Prop:=∀w es h w' es',s.runT P w es=(.halt h w',es')→Hk h
theorem Dead.nh {s:Sem α}(h:Dead P s):NH P s:=by
 intro w es x w' es' e
 obtain⟨y,_,_,hy,e'⟩:=h w es
 rw[e']at e
 simp only[Prod.mk.injEq,Result.halt.injEq]at e
 exact e.1.1▸hy
theorem nh_pure(a:α):NH P (pure a:Sem α):=fun _ _ _ _ _ e=>by cases e
theorem nh_bind {s:Sem α}{k:α→Sem β}(h:NH P s)(hk:∀a,NH P (k a)):NH P (s >>= k):=by
 intro w es x w' es' e
 have e:(s.bind k).runT P w es=(.halt x w',es'):=e
 rw[Sem.runT_bind']at e
 cases hs:s.runT P w es with
 | mk r t=>
  rw[hs]at e
  cases r with
  | ok a w1=>exact hk a w1 t x w' es' e
  | halt y w1=>
   simp only[Prod.mk.injEq,Result.halt.injEq]at e
   exact e.1.1▸h w es y w1 t hs
theorem nh_prog {k:Program→Sem β}(hk:NH P (k P)):NH P (program >>= k):=fun w es x w' es' e=>hk w es x w' es' e
theorem nh_choose(q:Question):NH P (choose q):=by
 intro w es x w' es' e
 simp only[choose,Sem.runT]at e
 split at e<;>cases e
theorem nh_new(o:Obj):NH P (newObj o):=fun _ _ _ _ _ e=>by cases e
theorem nh_shape(r:Nat):NH P (shape r):=fun _ _ _ _ _ e=>by cases e
theorem nh_frozen(a:Addr):NH P (frozen a):=fun _ _ _ _ _ e=>by cases e
theorem nh_mark(m:Mark):NH P (mark m):=fun _ _ _ _ _ e=>by cases e
theorem nh_stuck(x:String):NH P (stuck x:Sem α):=by
 intro w es h w' es' e
 have e:(Result.halt (Halt.stuck x) w,es)=(Result.halt h w',es'):=e
 simp only[Prod.mk.injEq,Result.halt.injEq]at e
 rw[←e.1.1]
 trivial
theorem dead_halt(h:Halt)(hk:Hk h):Dead P (.halt h:Sem α):=fun w es=>⟨h,w,es,hk,rfl⟩
theorem dead_after {s:Sem α}{k:α→Sem β}(hs:NH P s)(h:∀a,Dead P (k a)):Dead P (s >>= k):=by
 intro w es
 show ∃h w' es',Hk h∧(s.bind k).runT P w es=_
 rw[Sem.runT_bind']
 cases e:s.runT P w es with
 | mk r es'=>
  cases r with
  | ok a w'=>exact h a w' es'
  | halt x w'=>exact⟨x,w',es',hs w es x w' es' e,rfl⟩
theorem dead_stuck(x:String):Dead P (stuck x:Sem α):=dead_halt _ trivial
theorem dead_unsup(x:Unsupported)(hx:∀g,x ≠ .initOrder g:=by intro g h;cases h):Dead P (unsupported x:Sem α):=dead_halt _ hx
theorem nh_under(t:TypeId):NH P (underlying t):=by
 unfold underlying
 refine nh_prog ?_
 split
 ·exact nh_pure _
 ·exact nh_stuck _
theorem nh_elemOf(t:TypeId):NH P (elemOf t):=by
 unfold elemOf
 refine nh_bind (nh_under t) fun d=>?_
 split
 ·exact nh_pure _
 ·exact nh_stuck _
theorem nh_var(t:TypeId)(v:Value):NH P (newVar t v):=by
 unfold newVar newRow
 exact nh_bind (nh_new _) fun _=>nh_pure _
theorem dead_panic(e:RuntimeError):Dead P (runtimePanic e:Sem α):=by
 unfold runtimePanic
 have hp:∀ {k:Program→Sem α},Dead P (k P)→Dead P (program >>= k):=fun h w es=>h w es
 refine hp ?_
 cases e with
 | typeAssertion i c a m=>exact dead_after (nh_elemOf _) fun _=>dead_after (nh_var _ _) fun _=>dead_halt _ trivial
 | panicNil=>exact dead_after (nh_elemOf _) fun _=>dead_after (nh_var _ _) fun _=>dead_halt _ trivial
 | _=>exact dead_halt _ trivial
theorem dead_bounds(k:IntKind)(x y:Int)(c:BoundsCode):Dead P (boundsPanic k x y c:Sem α):=by
 unfold boundsPanic
 show Dead P (if _ then _ else _)
 split
 ·exact dead_after (nh_bind (nh_choose _) fun _=>nh_pure _) fun _=>dead_panic _
 ·exact dead_after (nh_pure _) fun _=>dead_panic _
theorem sr_prog:SR P S F f (fun a a'=>P=a∧P=a') program program:=Or.inr ⟨_,rfl,_,rfl,rfl,rfl⟩
theorem sr_choose(q:Question):SR P S F f (fun a a'=>a=a') (choose q) (choose q):=Or.inr ⟨_,rfl,fun n=>⟨n,rfl,rfl⟩⟩
theorem sr_info(t:TypeId):SR P S F f (fun a a'=>a=a'∧P.info? t=some a) (typeInfo t) (typeInfo t):=by
 unfold typeInfo
 refine SR.bind' sr_prog ?_
 rintro _ _ ⟨rfl,rfl⟩
 cases h:P.info? t with
 | none=>exact SR.dead (dead_stuck _)
 | some i=>exact SR.ret ⟨rfl,rfl⟩
theorem sr_under(t:TypeId):SR P S F f (fun a a'=>a=a'∧P.underlying t=some a) (underlying t) (underlying t):=by
 unfold underlying
 refine SR.bind' sr_prog ?_
 rintro _ _ ⟨rfl,rfl⟩
 cases h:P.underlying t with
 | none=>exact SR.dead (dead_stuck _)
 | some i=>exact SR.ret ⟨rfl,rfl⟩
def BZ(P:Program)(t:TypeId):Prop:=∀i v,P.info? t=some i→i.zero=some v→NoB v
theorem sr_zero {t:TypeId}(hz:BZ P t):SR P S F f (fun a a'=>a=a'∧NoB a) (zeroValue t) (zeroValue t):=by
 unfold zeroValue
 refine SR.bind' (sr_info t) ?_
 rintro i _ ⟨rfl,hi⟩
 cases h:i.zero with
 | none=>exact SR.dead (dead_unsup _)
 | some v=>exact SR.ret ⟨rfl,hz _ _ hi h⟩
theorem sr_size(t:TypeId):SR P S F f (fun a a'=>a=a') (sizeOf t) (sizeOf t):=by
 unfold sizeOf
 refine SR.bind' (sr_info t) ?_
 rintro i _ ⟨rfl,hi⟩
 exact SR.ret rfl
theorem sr_isAgg(t:TypeId):SR P S F f (fun a a'=>a=a') (isAgg t) (isAgg t):=by
 unfold isAgg
 refine SR.bind' (sr_under t) ?_
 rintro d _ ⟨rfl,hd⟩
 split<;>exact SR.ret rfl
theorem add_rn(a:Addr)(n:Nat):rnA f (a.add n)=(rnA f a).add n:=by
 unfold Addr.add rnA
 split<;>rfl
theorem sr_load {a:Addr}(h:AOk S F a):SR P S F f (VR S F f) (load a) (load (rnA f a)):=Or.inr ⟨_,rfl,rfl,h,fun _ hv=>⟨_,rfl,hv,rfl⟩⟩
theorem sr_store {a:Addr}{v:Value}(h:AOk S F a)(hv:VOk S F v):SR P S F f (fun _ _=>True) (store a v) (store (rnA f a) (rnV f v)):=Or.inr ⟨_,rfl,rfl,h,hv,⟨_,rfl,trivial⟩⟩
def CR(S:Nat→Prop)(F:Fx)(f:Nat→Nat)(c c':Array Value):Prop:=(∀v,v∈c→VOk S F v)∧c'=c.map (rnV f)
theorem sr_cellsFrom {a:Addr}(h:AOk S F a)(n:Nat):∀(i:Nat) (acc acc':Array Value),CR S F f acc acc'→SR P S F f (CR S F f) (loadCellsFrom a i n acc) (loadCellsFrom (rnA f a) i n acc'):=by
 induction n with
 | zero=>intro i acc acc' hc;exact SR.ret hc
 | succ n ih=>
  intro i acc acc' hc
  unfold loadCellsFrom
  have e:(rnA f a).add i=rnA f (a.add i):=(add_rn a i).symm
  rw[e]
  refine SR.bind' (sr_load (h.add _)) ?_
  rintro v _ ⟨hv,rfl⟩
  refine ih (i+1) _ _ ⟨fun x hx=>?_,by rw[hc.2];simp⟩
  rcases Array.mem_push.1 hx with hx|rfl
  ·exact hc.1 x hx
  ·exact hv
theorem sr_cells {a:Addr}(h:AOk S F a)(n:Nat):SR P S F f (CR S F f) (loadCells a n) (loadCells (rnA f a) n):=sr_cellsFrom h n 0 _ _ ⟨fun v hv=>by simp at hv,by simp⟩
theorem sr_storeCells {a:Addr}(h:AOk S F a):∀(l:List Value) (i:Nat),(∀v,v∈l→VOk S F v)→SR P S F f (fun _ _=>True) (storeCells a l i) (storeCells (rnA f a) (l.map (rnV f)) i):=by
 intro l
 induction l with
 | nil=>intro i _;exact SR.ret trivial
 | cons v l ih=>
  intro i hl
  have e:(rnA f a).add i=rnA f (a.add i):=(add_rn a i).symm
  show SR P S F f _ (store (a.add i) v >>= fun _=>storeCells a l (i+1)) (store ((rnA f a).add i) (rnV f v) >>= fun _=>storeCells (rnA f a) (l.map (rnV f)) (i+1))
  rw[e]
  refine SR.bind' (sr_store (h.add _) (hl v (by simp))) ?_
  intro _ _ _
  exact ih (i+1) fun x hx=>hl x (by simp[hx])
theorem ok_agg {c:Array Value}(h:∀v,v∈c→VOk S F v):VOk S F (.agg c):=by rw[VOk];exact h
theorem rn_agg(c:Array Value):rnV f (.agg c) = .agg (c.map (rnV f)):=by rw[rnV]
theorem ok_ptr {a:Addr}(h:AOk S F a):VOk S F (.pointer (some a)):=by rw[VOk];rintro x ⟨⟩;exact h
theorem rn_ptr(a:Addr):rnV f (.pointer (some a)) = .pointer (some (rnA f a)):=by rw[rnV];rfl
theorem ok_sl {a:Addr}{n c:Nat}(h:AOk S F a):VOk S F (.slice (some a) n c):=by rw[VOk];rintro x ⟨⟩;exact h
theorem rn_sl(a:Addr)(n c:Nat):rnV f (.slice (some a) n c) = .slice (some (rnA f a)) n c:=by rw[rnV];rfl
theorem ok_int(k:IntKind)(n:Int):VOk S F (.int k n):=by simp[VOk]
theorem rn_int(k:IntKind)(n:Int):rnV f (.int k n) = .int k n:=by simp[rnV]
theorem ok_bool(b:Bool):VOk S F (.bool b):=by simp[VOk]
theorem rn_bool(b:Bool):rnV f (.bool b) = .bool b:=by simp[rnV]
theorem sr_loadVar(t:TypeId){a:Addr}(h:AOk S F a):SR P S F f (VR S F f) (loadVar t a) (loadVar t (rnA f a)):=by
 unfold loadVar
 refine SR.bind' (sr_isAgg t) ?_
 rintro b _ rfl
 split
 ·refine SR.bind' (sr_size t) ?_
  rintro n _ rfl
  refine SR.bind' (sr_cells h n) ?_
  rintro c _ ⟨hc,rfl⟩
  exact SR.ret ⟨ok_agg hc,(rn_agg _).symm⟩
 ·exact sr_load h
theorem sr_storeVar(t:TypeId){a:Addr}{v:Value}(h:AOk S F a)(hv:VOk S F v):SR P S F f (fun _ _=>True) (storeVar t a v) (storeVar t (rnA f a) (rnV f v)):=by
 unfold storeVar
 rw[cells_rn f hv]
 refine SR.bind' (sr_size t) ?_
 rintro n _ rfl
 rw[Array.size_map]
 split
 ·exact SR.dead (dead_bind (dead_stuck _) _)
 ·have:=sr_storeCells (P:=P) (F:=F) (f:=f) h v.cells.toList 0 (fun x hx=>cells_ok hv x (by simpa using hx))
  simpa using this
theorem sr_new {o:Obj}(h:OOk S F o):SR P S F f (fun r r'=>(S r∧¬F.cl r)∧r'=f r) (newObj o) (newObj (rnO f o)):=Or.inr ⟨_,rfl,h,fun _ hr h0=>⟨_,rfl,⟨hr,h0⟩,rfl⟩⟩
theorem sr_row(t:TypeId){c:Array Value}(h:∀v,v∈c→VOk S F v):SR P S F f (AR S F f) (newRow t c) (newRow t (c.map (rnV f))):=by
 unfold newRow
 refine SR.bind' (sr_new (o:= .cells c t) h) ?_
 rintro r _ ⟨hr,rfl⟩
 exact SR.ret ⟨⟨hr.1,fun q=>absurd q hr.2⟩,rfl⟩
theorem sr_var(t:TypeId){v:Value}(h:VOk S F v):SR P S F f (AR S F f) (newVar t v) (newVar t (rnV f v)):=by
 unfold newVar
 rw[cells_rn f h]
 exact sr_row t (cells_ok h)
theorem sr_sure {v:Value}(h:VOk S F v):SR P S F f (AR S F f) (Instr.sureAddr v) (Instr.sureAddr (rnV f v)):=by
 unfold Instr.sureAddr
 split
 ·rename_i a
  rw[rn_ptr]
  rw[VOk]at h
  exact SR.ret ⟨h a rfl,rfl⟩
 ·exact SR.dead (dead_stuck _)
theorem sr_intOf {v:Value}(h:VOk S F v):SR P S F f (fun a a'=>a=a') (asIntOf v) (asIntOf (rnV f v)):=by
 cases v with
 | int k n=>rw[rn_int];exact SR.ret rfl
 | pointer a=>cases a<;>first|exact SR.dead (dead_stuck _)|exact SR.dead (dead_unsup _)
 | _=>exact SR.dead (dead_stuck _)
theorem sr_int {v:Value}(h:VOk S F v):SR P S F f (fun a a'=>a=a') (asInt v) (asInt (rnV f v)):=by
 unfold asInt
 refine SR.bind' (sr_intOf h) ?_
 rintro x _ rfl
 exact SR.ret rfl
theorem sr_bool {v:Value}:SR P S F f (fun a a'=>a=a') (asBool v) (asBool (rnV f v)):=by
 cases v with
 | bool b=>rw[rn_bool];exact SR.ret rfl
 | _=>exact SR.dead (dead_stuck _)
end
end
section
section
variable {P:Program}{S:Nat→Prop}{F:Fx}{f:Nat→Nat}{α β:Type}{R:α→α→Prop}
theorem sr_shape {r:Nat}(h:S r):SR P S F f (ShR F r) (shape r) (shape (f r)):=Or.inr ⟨_,rfl,h,fun _ x' hx=>⟨x',rfl,hx⟩⟩
theorem sr_get {r:Nat}(h:S r):SR P S F f (fun o o'=>OOk S F o∧o'=rnO f o) (getObj r) (getObj (f r)):=Or.inr ⟨_,rfl,h,fun _ ho=>⟨_,rfl,ho,rfl⟩⟩
theorem sr_view {r:Nat}(h:S r):SR P S F f (fun a a'=>a=none∧a'=none) (viewAt r) (viewAt (f r)):=by
 unfold viewAt
 refine SR.bind' (sr_shape h) ?_
 intro x x' hx
 show SR P S F f _ (if x.isSome=true then _ else _) (if x'.isSome=true then _ else _)
 rw[hx.some]
 split
 ·exact SR.ret ⟨rfl,rfl⟩
 ·refine SR.bind' (sr_get h) ?_
  rintro o _ ⟨ho,rfl⟩
  cases o with
  | cells c t z=>exact SR.ret ⟨rfl,rfl⟩
  | number a l=>exact SR.ret ⟨rfl,rfl⟩
  | _=>exact ho.elim
def NumR(S:Nat→Prop)(F:Fx)(f:Nat→Nat)(a a':Option (Addr×Bool)):Prop:=(∀x,a=some x→AOk S F x.1)∧a'=a.map fun x=>(rnA f x.1,x.2)
theorem sr_number {r:Nat}(h:S r):SR P S F f (NumR S F f) (numberAt r) (numberAt (f r)):=by
 unfold numberAt
 refine SR.bind' (sr_shape h) ?_
 intro x x' hx
 show SR P S F f _ (if x.isSome=true then _ else _) (if x'.isSome=true then _ else _)
 rw[hx.some]
 split
 ·exact SR.ret ⟨(fun x e=>by cases e),rfl⟩
 ·refine SR.bind' (sr_get h) ?_
  rintro o _ ⟨ho,rfl⟩
  cases o with
  | cells c t z=>exact SR.ret ⟨(fun x e=>by cases e),rfl⟩
  | number a l=>exact SR.ret ⟨(fun x e=>by cases e;exact ho),rfl⟩
  | _=>exact ho.elim
theorem sr_behind {n:Addr}(h:AOk S F n):SR P S F f (fun a a'=>AOk S F a.1∧a'=(rnA f a.1,a.2)) (behindNumber n) (behindNumber (rnA f n)):=by
 unfold behindNumber
 refine SR.bind' (sr_number h.1) ?_
 rintro x _ ⟨hx,rfl⟩
 cases x with
 | none=>exact SR.ret ⟨h,rfl⟩
 | some x=>exact SR.ret ⟨hx x rfl,rfl⟩
theorem sr_asNumber {a:Addr}(h:AOk S F a)(l:Bool):SR P S F f (VR S F f) (asNumber a l) (asNumber (rnA f a) l):=by
 unfold asNumber
 refine SR.bind' (sr_new (o:= .number a l) h) ?_
 rintro r _ ⟨hr,rfl⟩
 exact SR.ret ⟨ok_ptr ⟨hr.1,fun q=>absurd q hr.2⟩,by rw[rn_ptr];rfl⟩
theorem sr_noView {a:Addr}(h:AOk S F a):SR P S F f (fun _ _=>True) (noView a) (noView (rnA f a)):=by
 unfold noView
 refine SR.bind' (sr_view h.1) ?_
 rintro _ _ ⟨rfl,rfl⟩
 exact SR.ret trivial
theorem sr_byteOf {a:Addr}(h:AOk S F a)(hq:¬F.cl a.block):SR P S F f (fun x x'=>x=x') (byteOf a) (byteOf (rnA f a)):=by
 unfold byteOf
 show SR P S F f _ (match a.spot with|some s=>_|_=>_) (match a.spot with|some s=>_|_=>_)
 split
 ·exact SR.ret rfl
 ·refine SR.bind' sr_prog ?_
  rintro _ _ ⟨rfl,rfl⟩
  refine SR.bind' (sr_noView h) ?_
  intro _ _ _
  refine SR.bind' (sr_shape h.1) ?_
  intro x x' hx
  obtain rfl:=hx.1 hq
  cases x' with
  | none=>exact SR.dead (dead_stuck _)
  | some x=>
   obtain⟨e,_⟩:=x
   show SR P S F f _ (if _ then _ else _) (if _ then _ else _)
   split
   ·exact SR.ret rfl
   ·show SR P S F f _ (match byteOfCell P P.depth e (a.off % P.cellsOf e)with|some b=>_|_=>_) (match byteOfCell P P.depth e (a.off % P.cellsOf e)with|some b=>_|_=>_)
    split
    ·exact SR.ret rfl
    ·exact SR.dead (dead_stuck _)
def FRm(P:Program)(d:Field):Prop:=∀i,P.info? d.type=some i→i.size≠0
theorem sr_fieldPlace {a:Addr}(h:AOk S F a)(d:Field)(hd:FRm P d):SR P S F f (AR S F f) (fieldPlace a d) (fieldPlace (rnA f a) d):=by
 unfold fieldPlace sizeOf
 refine SR.bind' (R:=fun a a'=>a=a'∧a≠0) ?_ ?_
 ·refine SR.bind' (sr_info d.type) ?_
  rintro i _ ⟨rfl,hi⟩
  exact SR.ret (show i.size=i.size∧i.size≠0 from⟨rfl,hd i hi⟩)
 rintro n _ ⟨rfl,hn⟩
 rw[if_neg hn,if_neg hn]
 exact SR.ret ⟨h.add _,(add_rn a _).symm⟩
def FRs(P:Program)(s:TypeId):Prop:=∀fs,P.underlying s=some (.struct fs)→∀d,d∈fs→FRm P d
theorem sr_fieldAt(s:TypeId)(hz:FRs P s){v:Value}(hv:VOk S F v)(i:Nat):SR P S F f (VR S F f) (Instr.fieldAt s v i) (Instr.fieldAt s (rnV f v) i):=by
 unfold Instr.fieldAt
 refine SR.bind' (sr_under s) ?_
 rintro d _ ⟨rfl,hd⟩
 split
 ·rename_i fields
  split
  ·rename_i fl hfl
   refine SR.bind' (sr_sure hv) ?_
   rintro a _ ⟨ha,rfl⟩
   refine SR.bind' (sr_fieldPlace ha _ (hz _ hd _ (by first|exact Array.mem_of_getElem? hfl|exact Array.getElem_mem _))) ?_
   rintro b _ ⟨hb,rfl⟩
   exact SR.ret ⟨ok_ptr hb,(rn_ptr b).symm⟩
  ·exact SR.dead (dead_stuck _)
 ·exact SR.dead (dead_stuck _)
end
end
end Go.Proofs.YtedifobeggabnaaGreat
