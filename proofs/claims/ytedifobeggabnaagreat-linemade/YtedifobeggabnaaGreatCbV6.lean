/- Texts of ours, one behind the other: V6. -/
import Derived.Test.YtedifobeggabnaaGreatCbU12
namespace Go.Proofs.YtedifobeggabnaaGreat
open Go.RowKit Go.Sort
variable {c:FD}{a d f i k l m n o q:Nat}{g j p:Nat->Nat}{b e r:World}
structure Gv(D:FD)(gen gm cm:Nat)(b:Nat->Nat)(l:Nat)(Q:Nat->Nat)(gb gq nq:Nat)(w:World)(ar:Option Addr)(len cp:Nat)(r:Nat->Nat)(s:Nat)(wr:World):Prop where
 own:cG (w.heap.size+1) (.slice ar len cp) len r wr
 FR:Row gb (l+1) b wr
 Bh:Row gq nq (λk=>if s<=k then Q k else 0) wr
 box:gN w.heap.size D gen (.slice (some ⟨gm,0,none⟩) (D.m+1) cm) wr
 vR:Below w.heap.size w wr
 ne:∀x,ar=some x->x.block≠gb∧x.block≠gq
theorem Gv.below{t:Option Addr}(h:Gv c a d f g i j k l m b t n o p q e)(u:b.heap.size<e.heap.size)(s:Below e.heap.size e r):Gv c a d f g i j k l m b t n o p q r:=
 ⟨h.own.below s (aa _),h.FR.below s h.FR.lt,h.Bh.below s h.Bh.lt,h.box.below s u,al h.vR s,h.ne⟩
theorem gN.setOther{f:Value}(e:gN a c d f b)(g:Addr)(i:a≠g.block)(h:Value):gN a c d f (b.setCell g h):=by
 have f:(b.setCell g h).heap[a]?=b.heap[a]?:=XR _ _ _ _ i;exact⟨(Ya (a:=⟨a,0,none⟩) f).trans e.c0,(Ya (a:=⟨a,1,none⟩) f).trans e.c1,(Ya (a:=⟨a,2,none⟩) f).trans e.c2,(Ya (a:=⟨a,3,none⟩) f).trans e.c3,(Ya (a:=⟨a,4,none⟩) f).trans e.c4⟩
