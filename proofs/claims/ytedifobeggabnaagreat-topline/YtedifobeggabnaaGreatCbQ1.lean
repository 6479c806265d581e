/- Texts of ours, one behind the other: Q1 Q2 W11 Q3 Q4 Q5 Q6 I1 I3 I4 S12 S13. -/
import Derived.Test.YtedifobeggabnaaGreatCbV7
import Derived.Test.YtedifobeggabnaaGreatCbL10
import Derived.Deep.RegionHeld3
import Derived.WalkKit
import Derived.Test.YtedifobeggabnaaGreatCbZ1
namespace Go.Proofs.YtedifobeggabnaaGreat
section
open Go.RowKit
end
section
open Go.RowKit Go.Sort
end
section
open Go
def wpAnyX(P:Program)(ops:Array Oper)(Q:Exit→Act→World→Prop)(S:World→Prop)(L:Nat):Nat→Array Bool→Act→World→Prop
 | 0,s,a,w=>Region.ready .any ops s=[]∧Q .normal a w
 |f+1,s,a,w=>(Region.ready .any ops s=[]→Q .normal a w)∧∀i∈Region.ready .any ops s,wpOp P ops Q i (fun a' w'=>(i≠L→S w')∧wpAnyX P ops Q S L f (s.setIfInBounds i true) a' w') a w
theorem wpAny_of_X {P:Program}{ops:Array Oper}{Q:Exit→Act→World→Prop}{S:World→Prop}{L:Nat}:∀(f:Nat) (s:Array Bool) (a:Act) (w:World),wpAnyX P ops Q S L f s a w→wpAny P .any ops Q f s a w
 | 0,_,_,_,h=>h
 |f+1,_,_,_,h=>⟨h.1,fun i hi=>wpOp_mono (fun a' w' h'=>wpAny_of_X f _ a' w' h'.2) (h.2 i hi)⟩
def waitsB(ops:Array Oper)(L i:Nat):Bool:=((ops[L]?).map fun o=>o.after.any fun e=>Region.binds .any e && e.on == i).getD false
theorem wpAnyX_one {P:Program}{ops:Array Oper}{Q:Exit→Act→World→Prop}{S:World→Prop}{L i:Nat}{o:Oper}{f:Nat}{s:Array Bool}{a:Act}{w:World}(hr:Region.ready .any ops s=[i])(ho:ops[i]?=some o)
  (h:∀K:Act→World→Prop,(∀a' w',(i≠L→S w')→wpAnyX P ops Q S L f (s.setIfInBounds i true) a' w'→K a' w')→if Region.wanted o (yielded ops a.tmps)=true then Oper.wp P o a w K Q else K (a.put o.dst undef) w):wpAnyX P ops Q S L (f+1) s a w:=by
 refine⟨fun e=>(by rw[hr]at e;cases e),fun j hj=>?_⟩
 rw[hr,List.mem_singleton]at hj
 subst hj
 have h1:=h (fun a' w'=>(j≠L→S w')∧wpAnyX P ops Q S L f (s.setIfInBounds j true) a' w') (fun a' w' h1 h2=>⟨h1,h2⟩)
 unfold wpOp
 simp only[ho]
 split
 ·rename_i hw
  rw[if_pos hw]at h1
  exact Or.inl h1
 ·rename_i hw
  rw[if_neg hw]at h1
  exact h1
theorem wpAnyX_done {P:Program}{ops:Array Oper}{Q:Exit→Act→World→Prop}{S:World→Prop}{L:Nat}{s:Array Bool}{a:Act}{w:World}(hr:Region.ready .any ops s=[])(h:Q .normal a w):wpAnyX P ops Q S L 0 s a w:=⟨hr,h⟩
theorem wp_region_X {P:Program}{ops:Array Oper}{Q:Exit→Act→World→Prop}{S:World→Prop}(L:Nat){id:Nat}{a:Act}{w:World}(hm:P.follows .mixedOrders=true)
  (h:wpAnyX P ops Q S L ops.size (Array.replicate ops.size false) a w.drew):(Code.region id ops true).wp P Q a w:=
 wp_region_any hm (wpAny_of_X _ _ _ _ h)
end
section
open Go.RowKit Go.Sort
theorem OwnI.form {base:Nat}{v:Value}{l:List Int}{w:World}(h:OwnI base v l w):∃ao cap,v = .slice ao l.length cap:=by
 rcases h.2 with⟨h1,h2⟩|⟨g,cap,cur,hv,_⟩
 ·exact⟨none,0,by rw[h1,h2]⟩
 ·exact⟨_,cap,hv⟩
end
section
open Go.RowKit
end
section
open Go.RowKit Go.Sort
end
end Go.Proofs.YtedifobeggabnaaGreat
