/- Texts of ours, one behind the other: L1 L2 L3 L4 L5 L6 L7 W8 L8. -/
import Derived.Test.YtedifobeggabnaaGreatCbV11
namespace Go.Proofs.YtedifobeggabnaaGreat
open Tryz
variable {a:FD}{b e d:Nat}{c:Nat->Int}
section
open Go.RowKit
theorem qj(f:a∈ak)(b:World):Calls prog 10 #[.int .i64 a.q] b λg e=>∃c d,g=.returned (.tuple #[rf a.q a.p a.m a.gen (.slice (some ⟨c,0,none⟩) (a.m+1) d),.int .i64 0])∧eH a (.slice (some ⟨c,0,none⟩) (a.m+1) d) a.md e∧Below b.heap.size b e:=by
 refine(xC f b).mono ?_;rintro g e ⟨k,rfl,h,i,j⟩;obtain⟨c,d,l,rfl,_⟩:=h.row (a.m+1) zp (by have:=(dE f).m6;omega);exact⟨c,d,X,i,j⟩
end
section
open Go.RowKit Go.Sort
theorem jT(c:b<a.q):a.has (b:Int)=true:=by
 unfold FD.has;simp;omega
theorem EE{a:Option Addr}{h:World}(f:Arg a b e c h)(o:d<=b):kA (.slice a d e) (zl d c) h:=by
 by_cases i:d=0
 ·subst i;exact I ⟨X,a,e,X⟩
 ·obtain⟨l,m,rfl,_⟩:=f.sl 0 E;refine J ⟨λg=>?_,by rw[bq];have:=f.qL;omega,l,m,e,by rw[bq],λj k=>?_⟩
  ·have:=cF List.length g;rw[bq]at this;exact i this
  ·rw[bq]at k;obtain⟨a,h,g,n⟩:=f.sl j E;cases g;rw[sR d c j k];exact n
theorem Gs{a:Int}:a∈zl b c↔∃j,j<b∧c j=a:=by
 unfold zl;rw[gF];constructor
 ·rintro⟨j,a,d⟩;exact⟨j,bj.1 a,d⟩
 ·rintro⟨j,a,d⟩;exact⟨j,bj.2 a,d⟩
end
section
open Go.RowKit
end
section
open Go.RowKit Go.Sort
