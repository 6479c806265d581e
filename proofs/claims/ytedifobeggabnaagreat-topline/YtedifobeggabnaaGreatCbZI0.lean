/- Texts of ours, one behind the other: ZI0 ZI1 ZI2 ZI3 ZI4. -/
import Derived.Test.YtedifobeggabnaaGreatCbZH0
import Derived.Test.YtedifobeggabnaaGreatCbKD5
import Derived.Test.YtedifobeggabnaaGreatCbL10
namespace Go.Proofs.YtedifobeggabnaaGreat
section
open Go.RowKit Go.Sort
theorem RowE.cell {g N:Nat}{c:Nat→Nat}{w:World}(h:RowE g N c w)(k:Nat)(hk:k<N):w.cell? ⟨g,k,none⟩=some (.int .i64 (c k:Nat)):=by
 obtain⟨f,hf,he⟩:=h
 rw[hf.cell k hk,he k hk]
theorem RowE.free {g N:Nat}{c:Nat→Nat}{w:World}(h:RowE g N c w)(k:Nat):w.frozen? ⟨g,k,none⟩=false:=by
 obtain⟨f,hf,he⟩:=h
 exact hf.free k
theorem RowE.lt {g N:Nat}{c:Nat→Nat}{w:World}(h:RowE g N c w):g<w.heap.size:=by
 obtain⟨f,hf,he⟩:=h
 exact hf.lt
theorem RowE.drewN {g N:Nat}{c:Nat→Nat}{w:World}(h:RowE g N c w)(k:Nat):RowE g N c (w.drewN k):=by
 obtain⟨f,hf,he⟩:=h
 exact⟨f,hf.drewN k,he⟩
theorem RowE.store {g N:Nat}{c d:Nat→Nat}{w:World}(h:RowE g N c w)(k v:Nat)(hd:∀j,j<N→d j=if j=k then v else c j):RowE g N d (w.setCell ⟨g,k,none⟩ (.int .i64 (v:Nat))):=by
 obtain⟨f,hf,he⟩:=h
 refine⟨_,hf.store k _,fun j hj=>?_⟩
 unfold upd
 rw[hd j hj]
 split
 ·rfl
 ·exact he j hj
theorem RowE.congr {g N:Nat}{c d:Nat→Nat}{w:World}(h:RowE g N c w)(e:∀k,k<N→c k=d k):RowE g N d w:=by
 obtain⟨f,hf,he⟩:=h
 exact⟨f,hf,fun k hk=>by rw[he k hk,e k hk]⟩
theorem RowE.below {g N B:Nat}{c:Nat→Nat}{w w':World}(h:RowE g N c w)(hb:Below B w w')(hB:g<B):RowE g N c w':=by
 obtain⟨f,hf,he⟩:=h
 exact⟨f,hf.below hb hB,he⟩
theorem RowE.other {g N:Nat}{c:Nat→Nat}{w w':World}(h:RowE g N c w)(e:w'.heap[g]?=w.heap[g]?):RowE g N c w':=by
 obtain⟨f,hf,he⟩:=h
 exact⟨f,hf.other e,he⟩
set_option maxHeartbeats 8000000 in
set_option maxRecDepth 100000 in
theorem rvalues_anyE {F T:Nat}{D:FD}(hD:D∈fieldsL){g:Nat→Value}{w:World}(hat:FAt F T D g w){ao xo:Option Addr}{k n ca cx:Nat}{a xs:Nat→Nat}(hk:k≤128)(hn:n≤64)(ha:El D a)(hx:∀i, i<n→xs i<D.q)(hA:Sl ao k a w)(hX:Sl xo n xs w)(hla:LtB ao w.heap.size)(hlx:LtB xo w.heap.size) :
  Calls Tryz.prog 48 #[.pointer (some ⟨F,0,none⟩),.slice ao k ca,.slice xo n cx] w fun e w'=>
   e = .returned (.slice (some ⟨w.heap.size,0,none⟩) n n)∧RowE w.heap.size n (fun i=>D.ev a (xs i) k) w'∧Below w.heap.size w w':=by
 have HF:Hid (FAt F T D g w∧D∈fieldsL∧Sl ao k a w∧Sl xo n xs w∧El D a∧(∀i,i<n→xs i<D.q)∧LtB ao w.heap.size∧LtB xo w.heap.size):=⟨hat,hD,hA,hX,ha,hx,hla,hlx⟩
 clear hat hD hA hX ha hx hla hlx
 go_enter Tryz.func48,Tryz.ntmps48
 go_wp2_with (at_make;refine make_int rfl _ _ rfl _ n rfl rfl (by omega) (by omega) ?_;intro w1 hown1 hgrow1)
 have HB1:Hid (Below w.heap.size w w1∧RowE w.heap.size n pnil w1):=⟨below_grown hgrow1 (Nat.le_refl _) (fun k hk=>by simp at hk),row_zerosE hown1⟩
 clear hown1 hgrow1
 obtain⟨gr,hg⟩:∃g,g=w.heap.size:=⟨_,rfl⟩
 have HB2:Hid (Below w.heap.size w w1∧RowE gr n pnil w1∧gr=w.heap.size):=by rw[hg];exact⟨HB1.out.1,HB1.out.2,rfl⟩
 rw[←hg]
 have hgD:w.heap.size≤gr:=by omega
 clear HB1 hg
 go_loopw [16] (fun i wr=>∃r:Nat,r≤n∧i = .int .i64 r∧Hid (RowE gr n (fun j=>if j<r then D.ev a (xs j) k else 0) wr∧Below w.heap.size w wr)) (fun i _=>n-(intOf i).toNat)
 case atStart=>exact⟨0,by omega,rfl,HB2.out.2.1.congr (fun j _=>by rw[if_neg (by omega)];rfl),HB2.out.1⟩
 case round=>
  obtain⟨r,hr,rfl,HG⟩:=hrel
  rename World=>wA
  by_cases hlt:r<n
  ·have hib:(r:Int)<(n:Int):=by omega
   obtain⟨bx,ox,hxo,hcx⟩:=(HF.out.2.2.2.1.below HG.out.2 HF.out.2.2.2.2.2.2.2) r hlt
   subst hxo
   obtain⟨x,hx⟩:∃x,x=xs r:=⟨_,rfl⟩
   rw[←hx]at hcx
   have hxq:x<D.q:=by rw[hx];exact HF.out.2.2.2.2.2.1 r hlt
   have HX:Hid (x=xs r∧x<D.q):=⟨hx,hxq⟩
   clear hx hxq
   go_wp2
   go_loopw [10] (fun vi wr=>∃t:Nat,t≤k∧vi = .int .i64 ((t:Int)-1)∧Hid (RowE gr n (fun j=>if j<r then D.ev a (xs j) k else if j=r then D.val a k x (k-t)else 0) wr∧Below w.heap.size w wr)) (fun vi _=>(intOf vi+1).toNat)
   case atStart=>exact⟨k,Nat.le_refl _,by first|rfl|go_num,HG.out.1.congr (fun j _=>by
    by_cases e:j<r
    ·rw[if_pos e,if_pos e]
    ·rw[if_neg e,if_neg e]
     split
     ·rw[Nat.sub_self];rfl
     ·rfl),HG.out.2⟩
   case round=>
    obtain⟨t,ht,hvi,HK⟩:=hrel
    rename World=>wr
    cases t with
    | succ s=>
     have hi':u10 = .int .i64 (s:Int):=by rw[hvi];go_num
     clear hvi
     subst hi'
     obtain⟨y,hy⟩:∃y,y=D.val a k x (k-(s+1)):=⟨_,rfl⟩
     have hyq:y<D.q:=by rw[hy];exact val_lt HF.out.2.1 a k x HF.out.2.2.2.2.1 _
     have hco:wr.cell? ⟨gr,r,none⟩=some (.int .i64 (y:Nat)):=by
      have h:=HK.out.1.cell r hlt
      rw[if_neg (by omega),if_pos rfl, ←hy]at h;exact h
     have hfo:=HK.out.1.free r
     obtain⟨ba,oa,hao,hca⟩:=(HF.out.2.2.1.below HK.out.2 HF.out.2.2.2.2.2.2.1) s (by omega)
     subst hao
     obtain⟨ax,hax⟩:∃ax,ax=a s:=⟨_,rfl⟩
     rw[←hax]at hca
     obtain⟨p,hp⟩:∃p,p=D.mul y x:=⟨_,rfl⟩
     obtain⟨u,hu⟩:∃u,u=sumD D.p D.q p ax:=⟨_,rfl⟩
     have F':=fld HF.out.2.1
     have hatr:=HF.out.1.below HK.out.2 HF.out.1.ltF HF.out.1.ltT
     have HC1:Hid (∀d,Calls Tryz.prog 67 #[.pointer (some ⟨F,0,none⟩),.int .i64 (y:Nat),.int .i64 (x:Nat)] (wr.drewN d) fun e w'=>e = .returned (.int .i64 (p:Nat))∧∃k,w'=(wr.drewN d).drewN k):=fun d=>by
      rw[hp];exact mul_nat HF.out.2.1 (hatr.drewN d) hyq HX.out.2
     have HC2:Hid (∀d,Calls Tryz.prog 66 #[.pointer (some ⟨F,0,none⟩),.int .i64 (p:Nat),.int .i64 (ax:Nat)] (wr.drewN d) fun e w'=>e = .returned (.int .i64 (u:Nat))∧∃k,w'=(wr.drewN d).drewN k):=fun d=>by
      rw[hu];exact add_nat HF.out.2.1 (hatr.drewN d) (by rw[hp];exact F'.mul_lt _ _) (by rw[hax];exact HF.out.2.2.2.2.1 s)
     have HY:D.val a k x (k-s)=u:=by
      rw[hu,hp,hy,hax,show k-s=(k-(s+1))+1 from by omega,FD.val,show k-1-(k-(s+1))=s from by omega]
     have HV:Hid (∀j,j<n→(if j<r then D.ev a (xs j) k else if j=r then D.val a k x (k-s)else 0)=if j=r then u else if j<r then D.ev a (xs j) k else if j=r then D.val a k x (k-(s+1))else 0):=fun j _=>by
      by_cases e:j=r
      ·rw[if_pos e,if_neg (by omega),if_pos e,HY]
      ·rw[if_neg e,if_neg e,if_neg e]
     have hsb:(s:Int)<(k:Int):=by omega
     clear hax hp hu hy HY F' hatr
     go_wp2
     refine quiet_tail 16 (by kernel_rfl) (by kernel_rfl) ?_
     simp only[List.take_succ_cons,List.take_zero,List.drop_succ_cons,List.drop_zero]
     repeat(go_big_quiet_step (first|(go_at_call 67;exact Calls.quiet_of (HC1.out _))|(go_at_call 66;exact Calls.quiet_of (HC2.out _))|fail))
     refine wpQuiet_nil ?_
     intro _ hw'
     obtain⟨nq,hw''⟩:=hw'
     subst hw''
     go_wp2
     go_roundw
     case rel=>exact⟨s,by omega,by go_num,(HK.out.1.drewN nq).store r u HV.out,(below_drewN2 HK.out.2 nq).setCell hgD _⟩
     case measure=>simp[intOf]
    | zero=>
     have hi':u10 = .int .i64 (-1):=by rw[hvi];rfl
     clear hvi
     subst hi'
     have HE:Hid (RowE gr n (fun j=>if j<r+1 then D.ev a (xs j) k else 0) wr∧Below w.heap.size w wr):=by
      refine⟨HK.out.1.congr (fun j _=>?_),HK.out.2⟩
      by_cases e:j<r
      ·rw[if_pos e,if_pos (by omega)]
      ·rw[if_neg e]
       by_cases e2:j=r
       ·rw[if_pos e2,if_pos (by omega),e2,Nat.sub_zero,val_is (fld HF.out.2.1) x k HF.out.2.2.2.2.1 HX.out.2,HX.out.1]
       ·rw[if_neg e2,if_neg (by omega)]
     go_wp2
     go_roundw
     case rel=>exact⟨r+1,by omega,by go_num,HE.out⟩
     case measure=>simp[intOf];omega
  ·have hib:¬(r:Int)<(n:Int):=by omega
   have HE:Hid (RowE gr n (fun j=>D.ev a (xs j) k) wA):=HG.out.1.congr (fun j hj=>by rw[if_pos (by omega)])
   go_wp2
   go_ret
   exact⟨by rw[←HB2.out.2.2];rfl,by rw[←HB2.out.2.2];exact HE.out,HG.out.2⟩
set_option maxHeartbeats 4000000 in
set_option maxRecDepth 100000 in
theorem encode_newE {D:FD}(hD:D∈fieldsL){xo ao:Option Addr}{n cx k ca:Nat}{xs a:Nat→Nat}{w:World}(hn1:1≤n)(hn:n≤64)(hcn:n≤cx)(hx:∀i, i<n→xs i<D.q)(hne:∀i j, i<n→j<n→i≠j→xs i≠xs j)(hX:Sl xo n xs w)(hlx:LtB xo w.heap.size)(hk1:1≤k)(hk:k≤n)(ha:El D a)(hA:Sl ao k a w)(hla:LtB ao w.heap.size) :
  Calls Tryz.prog 23 #[.int .i64 D.q,.slice xo n cx,.slice ao k ca] w fun e w'=>∃g,e = .returned (.tuple #[.slice (some ⟨g,0,none⟩) n n,.int .i64 0])∧w.heap.size≤g∧RowE g n (fun i=>D.ev a (xs i) k) w'∧Below w.heap.size w w':=by
 have HF:Hid (D∈fieldsL∧(∀i,i<n→xs i<D.q)∧(∀i j,i<n→j<n→i≠j→xs i≠xs j)∧Sl xo n xs w∧LtB xo w.heap.size∧El D a∧Sl ao k a w∧LtB ao w.heap.size):=⟨hD,hx,hne,hX,hlx,ha,hA,hla⟩
 have HC0:Hid (Calls Tryz.prog 22 #[.int .i64 D.q,.slice xo n cx,.int .i64 (k:Nat)] w fun e w'=>e = .returned (.int .i64 0)∧Below w.heap.size w w'):=rcheck_ok hD hn1 hn hcn hx hne hX hlx hk1 hk
 clear hD hx hne hX hlx ha hA hla
 go_enter Tryz.func23,Tryz.ntmps23
 go_wp2_with fail
 refine HC0.out.mono ?_
 rintro e w1 ⟨rfl,hb1⟩
 have H1:Hid (Below w.heap.size w w1):=hb1
 have HC1:Hid (Calls Tryz.prog 47 #[.int .i64 D.q,.slice ao k ca] w1 fun e w'=>e = .returned (.int .i64 0)∧Below w1.heap.size w1 w'):=by
  have h:=check_any (cap:=ca) HF.out.1 (w:=w1) (z:=fun j=>((a j:Nat):Int)) (show SlZ ao k (fun j=>((a j:Nat):Int)) w1 from HF.out.2.2.2.2.2.2.1.below hb1 HF.out.2.2.2.2.2.2.2) (HF.out.2.2.2.2.2.2.2.mono hb1.size) (by omega)
  rw[chk_nat HF.out.2.2.2.2.2.1 (by omega)]at h;exact h
 clear hb1
 go_wp2_with fail
 refine HC1.out.mono ?_
 rintro e w2 ⟨rfl,hb2⟩
 have H2:Hid (Below w.heap.size w w2):=bel_up' H1.out hb2
 clear hb2
 go_wp2_with fail
 refine(new_any HF.out.1 w2).mono ?_
 rintro e w3 ⟨F,T,g,rfl,hat,hF,hT,hb3⟩
 have H3:Hid (FAt F T D g w3∧Below w.heap.size w w3):=⟨hat,bel_up' H2.out hb3⟩
 clear hat hF hT hb3
 go_wp2_with fail
 refine(rvalues_anyE HF.out.1 H3.out.1 (by omega) hn HF.out.2.2.2.2.2.1 HF.out.2.1 (HF.out.2.2.2.2.2.2.1.below H3.out.2 HF.out.2.2.2.2.2.2.2) (HF.out.2.2.2.1.below H3.out.2 HF.out.2.2.2.2.1) (HF.out.2.2.2.2.2.2.2.mono H3.out.2.size) (HF.out.2.2.2.2.1.mono H3.out.2.size)).mono ?_
 rintro e w4 ⟨rfl,hrow,hb4⟩
 have H4:Hid (RowE w3.heap.size n (fun i=>D.ev a (xs i) k) w4∧Below w.heap.size w w4):=⟨hrow,bel_up' H3.out.2 hb4⟩
 clear hrow hb4
 go_wp2
 go_ret2
 exact⟨_,rfl,H3.out.2.size,H4.out.1,H4.out.2⟩
end
section
open Go.RowKit Go.Sort
def RowI(g N:Nat)(z:Nat→Int)(w:World):Prop:=∃f,RowF g N 3 f w∧∀k,k<N→f k = .int .i64 (z k)
structure Tc1(g:Nat)(w w':World):Prop where
 os:w'.os=w.os
 tape:w'.tape=w.tape
 output:w'.output=w.output
 size:w.heap.size≤w'.heap.size
 block:∀k,k<w.heap.size→k≠g→w'.heap[k]?=w.heap[k]?
def dst(D:FD)(y:Nat→Int)(p:Nat)(v:Int)(j:Nat):Int:=if j=p then(if v = -1∨y p = -1 then -1 else((sumD D.p D.q (y p).toNat v.toNat:Nat):Int))else y j
section
variable {g N:Nat}{z:Nat→Int}{w w':World}
theorem RowE.toI {c:Nat→Nat}(h:RowE g N c w):RowI g N (fun k=>((c k:Nat):Int)) w:=h
theorem RowI.cell(h:RowI g N z w)(k:Nat)(hk:k<N):w.cell? ⟨g,k,none⟩=some (.int .i64 (z k)):=by
 obtain⟨f,hf,he⟩:=h
 rw[hf.cell k hk,he k hk]
theorem RowI.free(h:RowI g N z w)(k:Nat):w.frozen? ⟨g,k,none⟩=false:=by
 obtain⟨f,hf,he⟩:=h
 exact hf.free k
theorem RowI.lt(h:RowI g N z w):g<w.heap.size:=by
 obtain⟨f,hf,he⟩:=h
 exact hf.lt
theorem RowI.other(h:RowI g N z w)(e:w'.heap[g]?=w.heap[g]?):RowI g N z w':=by
 obtain⟨f,hf,he⟩:=h
 exact⟨f,hf.other e,he⟩
theorem RowI.congr {y:Nat→Int}(h:RowI g N z w)(e:∀k,k<N→z k=y k):RowI g N y w:=by
 obtain⟨f,hf,he⟩:=h
 exact⟨f,hf,fun k hk=>by rw[he k hk,e k hk]⟩
theorem RowI.store {y:Nat→Int}(h:RowI g N z w)(k:Nat)(v:Int)(hd:∀j,j<N→y j=if j=k then v else z j):RowI g N y (w.setCell ⟨g,k,none⟩ (.int .i64 v)):=by
 obtain⟨f,hf,he⟩:=h
 refine⟨_,hf.store k _,fun j hj=>?_⟩
 unfold upd
 rw[hd j hj]
 split
 ·rfl
 ·exact he j hj
theorem RowI.plain(h:RowI g N z w):∃cs,w.heap[g]?=some (.cells cs 3)∧∀x,x∈cs→NoB x:=by
 obtain⟨f,⟨cs,h1,h2,h3⟩,h4⟩:=h
 refine⟨cs,h1,fun x hx=>?_⟩
 obtain⟨j,hj,rfl⟩:=Array.mem_iff_getElem.1 hx
 have e:=h3 j (by omega)
 rw[h4 j (by omega),Array.getElem?_eq_getElem hj]at e
 rw[Option.some.inj e]
 exact ok_int _ _
theorem RowI.arg(h:RowI g N z w){cap:Nat}(h1:N≤1000000)(h2:N≤cap)(h3:cap≤9223372036854775807):Arg (some ⟨g,0,none⟩) N cap z w:=
 ⟨fun j hj=>⟨g,0,rfl,by rw[Nat.zero_add];exact h.cell j hj⟩,fun x hx=>by cases hx;exact h.lt,h1,fun e=>(by cases e),h2,h3⟩
theorem Tc1.trans {w2:World}(h:Tc1 g w w')(k:Tc1 g w' w2):Tc1 g w w2:=⟨k.os.trans h.os,k.tape.trans h.tape,k.output.trans h.output,Nat.le_trans h.size k.size,fun b h1 h2=>(k.block b (Nat.lt_of_lt_of_le h1 h.size) h2).trans (h.block b h1 h2)⟩
theorem Tc1.of_below(h:Below w.heap.size w w'):Tc1 g w w':=⟨h.os,h.tape,h.output,h.size,fun b h1 _=>h.block b h1⟩
theorem Tc1.set(w:World)(k:Nat)(v:Value):Tc1 g w (w.setCell ⟨g,k,none⟩ v):=⟨rfl,rfl,rfl,by rw[size_setCell];exact Nat.le_refl _,fun b _ h2=>by rw[heap_setCell,if_neg h2]⟩
end
set_option maxHeartbeats 4000000 in
set_option maxRecDepth 100000 in
theorem dist_any {D:FD}(hD:D∈fieldsL){F T:Nat}{g:Nat→Value}{w:World}(hat:FAt F T D g w){gw N cap:Nat}{y:Nat→Int}(hrow:RowI gw N y w)(hy:∀j, j<N→y j = -1∨(0≤y j∧y j<(D.q:Int)))(a:Int){p:Nat}(hp:p<N){v:Int}(hv:v = -1∨(0≤v∧v<(D.q:Int))) :
  Calls Tryz.prog 54 #[.pointer (some ⟨F,0,none⟩),.slice (some ⟨gw,0,none⟩) N cap,.agg #[.int .i64 a,.int .i64 (p:Nat),.int .i64 v]] w fun e w'=>e = .returned (.tuple #[])∧RowI gw N (dst D y p v) w'∧Tc1 gw w w':=by
 obtain⟨w1,hw1⟩:∃w1,w1=w.alloc (.cells #[.int .i64 a,.int .i64 (p:Nat),.int .i64 v] 47):=⟨_,rfl⟩
 have hb1:Below w.heap.size w w1:=by rw[hw1];exact(Below.refl _ _).alloc (Nat.le_refl _) _
 have hs1:w1.heap.size=w.heap.size+1:=by rw[hw1];simp
 have r1:RowF w.heap.size 3 47 (hbx' #[.int .i64 a,.int .i64 (p:Nat),.int .i64 v]) w1:=by rw[hw1];exact rowF_new _ _ _ _ rfl
 have n0:w1.cell? ⟨w.heap.size,0,none⟩=some (.int .i64 a):=r1.cell 0 (by omega)
 have n1:w1.cell? ⟨w.heap.size,1,none⟩=some (.int .i64 (p:Nat)):=r1.cell 1 (by omega)
 have n2:w1.cell? ⟨w.heap.size,2,none⟩=some (.int .i64 v):=r1.cell 2 (by omega)
 have hrow1:RowI gw N y w1:=hrow.other (hb1.block gw hrow.lt)
 have yc:w1.cell? ⟨gw,p,none⟩=some (.int .i64 (y p)):=hrow1.cell p hp
 have yf:=hrow1.free p
 have hpN:(p:Int)<(N:Int):=by omega
 have hl1:w.heap.size<w1.heap.size:=by omega
 have HA:Hid (∀(v':Int) (nq:Nat),v'=dst D y p v p→RowI gw N (dst D y p v) (((w1.drewN nq).setCell ⟨gw,p,none⟩ (.int .i64 v')))∧Tc1 gw w ((w1.drewN nq).setCell ⟨gw,p,none⟩ (.int .i64 v'))):=fun v' nq hv'=>by
  refine⟨RowI.store (RowI.other hrow1 rfl) p v' (fun j _=>?_),((Tc1.of_below hb1).trans (show Tc1 gw w1 (w1.drewN nq)from⟨rfl,rfl,rfl,Nat.le_refl _,fun _ _ _=>rfl⟩)).trans (Tc1.set (w1.drewN nq) p _)⟩
  rw[hv']
  unfold dst
  by_cases e:j=p
  ·subst e
   simp
  ·rw[if_neg e,if_neg e]
 have HD:Hid (FAt F T D g w1):=hat.below hb1 hat.ltF hat.ltT
 clear hrow hrow1 hat hb1 r1
 rw[hw1]at n0 n1 n2 yc yf hl1
 by_cases h1:v = -1
 ·have hd:dst D y p v p = -1:=by unfold dst;rw[if_pos rfl,if_pos (Or.inl h1)]
  have HZ:=HA.out (-1) 0 hd.symm
  rw[hw1]at HZ
  have HZ:Hid _:=HZ
  go_enter Tryz.func54,Tryz.ntmps54
  subst h1
  clear hd
  go_wp2
  refine bodyPost_ret (v:= .tuple #[]) (by simp only[Tryz.f54,results];go_simp) rfl ?_
  exact⟨rfl,HZ.out⟩
 ·by_cases h2:y p = -1
  ·have hd:dst D y p v p = -1:=by unfold dst;rw[if_pos rfl,if_pos (Or.inr h2)]
   have HZ:=HA.out (-1) 0 hd.symm
   rw[hw1]at HZ
   have HZ:Hid _:=HZ
   rw[h2]at yc
   have h1b:(v == -1)=false:=by simpa using h1
   go_enter Tryz.func54,Tryz.ntmps54
   clear hd h2
   go_wp2
   refine bodyPost_ret (v:= .tuple #[]) (by simp only[Tryz.f54,results];go_simp) rfl ?_
   exact⟨rfl,HZ.out⟩
  ·obtain⟨yp, hyp⟩:∃yp:Nat, y p=(yp:Int)∧yp<D.q:=by
    rcases hy p hp with c|c
    ·exact absurd c h2
    ·exact⟨(y p).toNat,by omega,by omega⟩
   obtain⟨vn,rfl,hvq⟩:∃vn:Nat,v=(vn:Int)∧vn<D.q:=by
    rcases hv with c|c
    ·exact absurd c h1
    ·exact⟨v.toNat,by omega,by omega⟩
   obtain⟨u,hu⟩:∃u,u=sumD D.p D.q yp vn:=⟨_,rfl⟩
   have hd:((u:Nat):Int)=dst D y p (vn:Nat) p:=by
    unfold dst
    rw[if_pos rfl,if_neg (fun c=>c.elim h1 h2),hu,hyp.1]
    rfl
   have HZ:Hid (∀nq,RowI gw N (dst D y p (vn:Nat)) (((w1.drewN nq).setCell ⟨gw,p,none⟩ (.int .i64 (u:Nat))))∧Tc1 gw w ((w1.drewN nq).setCell ⟨gw,p,none⟩ (.int .i64 (u:Nat)))):=fun nq=>HA.out _ nq hd
   have HC2:Hid (∀d,Calls Tryz.prog 66 #[.pointer (some ⟨F,0,none⟩),.int .i64 (yp:Nat),.int .i64 (vn:Nat)] (w1.drewN d) fun e w'=>e = .returned (.int .i64 (u:Nat))∧∃k,w'=(w1.drewN d).drewN k):=fun d=>by
    rw[hu];exact add_nat hD (HD.out.drewN d) hyp.2 hvq
   rw[hyp.1]at yc
   have h1b:((vn:Int) == -1)=false:=by simp
   have h2b:((yp:Int) == -1)=false:=by simp
   have h1c:¬(vn:Int) = -1:=h1
   have h2c:¬(yp:Int) = -1:=by have h:=h2;rw[hyp.1]at h;exact h
   go_enter Tryz.func54,Tryz.ntmps54
   clear hd h2 hu hyp hy hv HA HD
   rw[hw1]at HZ HC2
   clear hw1
   go_wp2
   refine quiet_tail 13 (by kernel_rfl) (by kernel_rfl) ?_
   simp only[List.take_succ_cons,List.take_zero,List.drop_succ_cons,List.drop_zero]
   repeat(go_big_quiet_step (first|(go_at_call 66;exact Calls.quiet_of (HC2.out _))|fail))
   refine wpQuiet_nil ?_
   intro _ hw'
   obtain⟨nq,hw''⟩:=hw'
   subst hw''
   go_wp2
   refine bodyPost_end (results_none rfl _ _ _) rfl ?_
   exact⟨rfl,HZ.out nq⟩
end
section
open Go.RowKit Go.Sort
structure WrS(B g0 N n r:Nat)(bw:Nat→Nat)(y:Nat→Nat→Int)(w:World):Prop where
 out:RowF g0 N 22 (fun i=>if i<r then .slice (some ⟨bw i,0,none⟩) n n else .slice none 0 0) w
 row:∀i,i<r→RowI (bw i) n (y i) w
 ge:B≤g0
 gb:∀i,i<r→B≤bw i∧bw i≠g0
 inj:∀i j,i<r→j<r→bw i=bw j→i=j
def nzW(D:FD)(Y:Nat→Nat→Int)(na np:Nat→Nat)(nv:Nat→Int):Nat→Nat→Nat→Int
 | 0=>Y
 |r+1=>fun i=>if i=na r then dst D (nzW D Y na np nv r i) (np r) (nv r)else nzW D Y na np nv r i
def MsA(mo:Option Addr)(N k:Nat)(ao:Nat→Option Addr)(ca:Nat→Nat)(av:Nat→Nat→Nat)(w:World):Prop:=∀i,i<N→(∃b off,mo=some ⟨b,off,none⟩∧b<w.heap.size∧w.cell? ⟨b,off+i,none⟩=some (.slice (ao i) k (ca i)))∧Sl (ao i) k (av i) w∧LtB (ao i) w.heap.size
def NzA(no:Option Addr)(L:Nat)(na np:Nat→Nat)(nv:Nat→Int)(w:World):Prop:=∀r,r<L→∃b off,no=some ⟨b,off,none⟩∧b<w.heap.size∧w.cell? ⟨b,off+r*3,none⟩=some (.int .i64 (na r:Nat))∧w.cell? ⟨b,off+r*3+1,none⟩=some (.int .i64 (np r:Nat))∧w.cell? ⟨b,off+r*3+2,none⟩=some (.int .i64 (nv r))
section
variable {B g0 N n r:Nat}{bw:Nat→Nat}{y:Nat→Nat→Int}{w w':World}
theorem cell_below {b o:Nat}{x:Value}(hb:Below B w w')(hl:b<B)(h:w.cell? ⟨b,o,none⟩=some x):w'.cell? ⟨b,o,none⟩=some x:=by
 have e:w'.cell? ⟨b,o,none⟩=w.cell? ⟨b,o,none⟩:=by simp[World.cell?,hb.block b hl]
 rw[e]
 exact h
theorem MsA.below {mo:Option Addr}{k:Nat}{ao:Nat→Option Addr}{ca:Nat→Nat}{av:Nat→Nat→Nat}(h:MsA mo N k ao ca av w)(hb:Below w.heap.size w w'):MsA mo N k ao ca av w':=fun i hi=>by
 obtain⟨⟨b,off,e,hl,hc⟩,h2,h3⟩:=h i hi
 exact⟨⟨b,off,e,Nat.lt_of_lt_of_le hl hb.size,cell_below hb hl hc⟩,h2.below hb h3,h3.mono hb.size⟩
theorem NzA.below {no:Option Addr}{L:Nat}{na np:Nat→Nat}{nv:Nat→Int}(h:NzA no L na np nv w)(hb:Below w.heap.size w w'):NzA no L na np nv w':=fun i hi=>by
 obtain⟨b,off,e,hl,c0,c1,c2⟩:=h i hi
 exact⟨b,off,e,Nat.lt_of_lt_of_le hl hb.size,cell_below hb hl c0,cell_below hb hl c1,cell_below hb hl c2⟩
theorem nzW_ok {D:FD}(hD:D∈fieldsL){Y:Nat→Nat→Int}{na np:Nat→Nat}{nv:Nat→Int}(hY:∀i j,i<N→j<n→Y i j = -1∨(0≤Y i j∧Y i j<(D.q:Int))){L:Nat}(hp:∀r,r<L→np r<n)(hv:∀r,r<L→nv r = -1∨(0≤nv r∧nv r<(D.q:Int))):∀r,r≤L→∀i j,i<N→j<n→nzW D Y na np nv r i j = -1∨(0≤nzW D Y na np nv r i j∧nzW D Y na np nv r i j<(D.q:Int))
 | 0,_,i,j,hi,hj=>hY i j hi hj
 |r+1,hr,i,j,hi,hj=>by
  have ih:=nzW_ok (na:=na) hD hY hp hv r (by omega) i j hi hj
  have ihp:=nzW_ok (na:=na) hD hY hp hv r (by omega) i (np r) hi (hp r (by omega))
  have ihv:=hv r (by omega)
  have e0:nzW D Y na np nv (r+1) i j=(if i=na r then dst D (nzW D Y na np nv r i) (np r) (nv r)else nzW D Y na np nv r i:Nat→Int) j:=rfl
  by_cases e:i=na r
  ·rw[e0,if_pos e]
   unfold dst
   by_cases e3:j=np r
   ·rw[if_pos e3]
    by_cases e4:nv r = -1∨nzW D Y na np nv r i (np r) = -1
    ·rw[if_pos e4];exact Or.inl rfl
    ·rw[if_neg e4]
     refine Or.inr ⟨by omega,?_⟩
     have h1:nv r ≠ -1:=fun c=>e4 (Or.inl c)
     have h2:nzW D Y na np nv r i (np r)≠ -1:=fun c=>e4 (Or.inr c)
     have:=(fld hD).sum_lt (nzW D Y na np nv r i (np r)).toNat (nv r).toNat (by omega) (by omega)
     omega
   ·rw[if_neg e3];exact ih
  ·rw[e0,if_neg e];exact ih
theorem WrS.below {B1:Nat}(h:WrS B g0 N n r bw y w)(hb:Below B1 w w')(hB:w.heap.size≤B1):WrS B g0 N n r bw y w':=
 ⟨h.out.below hb (Nat.lt_of_lt_of_le h.out.lt hB),fun i hi=>(h.row i hi).other (hb.block _ (Nat.lt_of_lt_of_le (h.row i hi).lt hB)),h.ge,h.gb,h.inj⟩
theorem WrS.snoc {g:Nat}{z:Nat→Int}(h:WrS B g0 N n r bw y w)(hr:r<N)(hB:B≤w.heap.size)(hb:Below w.heap.size w w')(hg:w.heap.size≤g)(hrow:RowI g n z w')(hz:∀j,j<n→z j=y r j):WrS B g0 N n (r+1) (fun i=>if i=r then g else bw i) y (w'.setCell ⟨g0,r,none⟩ (.slice (some ⟨g,0,none⟩) n n)):=by
 have h1:=h.below hb (Nat.le_refl _)
 have hl:=h.out.lt
 have hlb:∀i,i<r→bw i<w.heap.size:=fun i hi=>(h.row i hi).lt
 refine⟨(h1.out.store r _).congr (fun o ho=>?_),fun i hi=>?_,h.ge,fun i hi=>?_,fun i j hi hj e=>?_⟩
 ·unfold upd
  by_cases e:o=r
  ·subst e;simp
  ·rw[if_neg e]
   show(if o<r then _ else _)=_
   by_cases e2:o<r
   ·rw[if_pos e2,if_pos (by omega),if_neg e]
   ·rw[if_neg e2,if_neg (by omega)]
 ·by_cases e:i=r
  ·subst e
   simp only[if_true]
   exact(hrow.congr hz).other (by rw[heap_setCell,if_neg (by show g≠g0;omega)])
  ·simp only[if_neg e]
   have hi:i<r:=by omega
   exact(h1.row i hi).other (by rw[heap_setCell,if_neg (h.gb i hi).2])
 ·by_cases e:i=r
  ·simp only[if_pos e];exact⟨by omega,by omega⟩
  ·simp only[if_neg e];exact h.gb i (by omega)
 ·by_cases e1:i=r<;>by_cases e2:j=r
  ·omega
  ·simp only[if_pos e1,if_neg e2]at e
   have:=hlb j (by omega);omega
  ·simp only[if_neg e1,if_pos e2]at e
   have:=hlb i (by omega);omega
  ·simp only[if_neg e1,if_neg e2]at e
   exact h.inj i j (by omega) (by omega) e
theorem WrS.put {i0:Nat}{z:Nat→Int}{y':Nat→Nat→Int}(h:WrS B g0 N n N bw y w)(hi0:i0<N)(ht:Tc1 (bw i0) w w')(hrow:RowI (bw i0) n z w')(hy:∀i,i<N→y' i=if i=i0 then z else y i):WrS B g0 N n N bw y' w':=by
 refine⟨h.out.other (ht.block _ h.out.lt (h.gb i0 hi0).2.symm),fun i hi=>?_,h.ge,h.gb,h.inj⟩
 rw[hy i hi]
 by_cases e:i=i0
 ·subst e;rw[if_pos rfl];exact hrow
 ·rw[if_neg e]
  exact(h.row i hi).other (ht.block _ (h.row i hi).lt fun c=>e (h.inj i i0 hi hi0 c))
end
end
section
open Go.RowKit Go.Sort
set_option maxHeartbeats 8000000 in
set_option maxRecDepth 100000 in
theorem carry_any {D:FD}(hD:D∈fieldsL){xo mo no:Option Addr}{n cx N mc L nc k:Nat}{xs:Nat→Nat}{ao:Nat→Option Addr}{ca:Nat→Nat}{av:Nat→Nat→Nat}{na np:Nat→Nat}{nv:Nat→Int}{w:World}(hn1:1≤n)(hn:n≤64)(hcn:n≤cx)(hx:∀i, i<n→xs i<D.q)(hne:∀i j, i<n→j<n→i≠j→xs i≠xs j)(hX:Sl xo n xs w)(hlx:LtB xo w.heap.size)(hk1:1≤k)(hk:k≤n)
  (hM:MsA mo N k ao ca av w) (hE:∀i,i<N→El D (av i)) (hN:N≤900) (hZ:NzA no L na np nv w) (hL:L≤900) (hna:∀r,r<L→na r<N) (hnp:∀r,r<L→np r<n) (hnv:∀r,r<L→nv r = -1∨(0≤nv r∧nv r<(D.q:Int))) :
  Calls Tryz.prog 26 #[.int .i64 D.q,.slice xo n cx,.slice mo N mc,.slice no L nc] w fun e w'=>∃g0 bw,e = .returned (.slice (some ⟨g0,0,none⟩) N N)∧WrS w.heap.size g0 N n N bw (nzW D (fun i j=>((D.ev (av i) (xs j) k:Nat):Int)) na np nv L) w'∧Below w.heap.size w w':=by
 have HM:Hid (MsA mo N k ao ca av w):=hM
 have HZ:Hid (NzA no L na np nv w):=hZ
 have HP:Hid ((∀i,i<N→El D (av i))∧(∀r,r<L→na r<N)∧(∀r,r<L→np r<n)∧(∀r,r<L→nv r = -1∨(0≤nv r∧nv r<(D.q:Int)))):=⟨hE,hna,hnp,hnv⟩
 have HEn:Hid (∀wx i,Below w.heap.size w wx→i<N→Calls Tryz.prog 23 #[.int .i64 D.q,.slice xo n cx,.slice (ao i) k (ca i)] wx fun e w'=>∃g,e = .returned (.tuple #[.slice (some ⟨g,0,none⟩) n n,.int .i64 0])∧wx.heap.size≤g∧RowE g n (fun j=>D.ev (av i) (xs j) k) w'∧Below wx.heap.size wx w'):=fun wx i hb hi=>by
  obtain⟨_,h2,h3⟩:=(hM.below hb) i hi
  exact encode_newE hD hn1 hn hcn hx hne (hX.below hb hlx) (hlx.mono hb.size) hk1 hk (hE i hi) h2 h3
 clear hM hZ hE hna hnp hnv hX hlx hx hne
 go_enter Tryz.func26,Tryz.ntmps26
 go_wp2_with fail
 refine(new_any hD w).mono ?_
 rintro e w1 ⟨F,T,g,rfl,hat,_,_,hb1⟩
 have H1:Hid (Below w.heap.size w w1∧FAt F T D g w1∧F<w1.heap.size∧T<w1.heap.size):=⟨hb1,hat,hat.ltF,hat.ltT⟩
 clear hat hb1
 go_wp2_with (at_make;refine make_sls rfl _ _ rfl _ N rfl rfl rfl (by omega) ?_;intro w2 hrow2 hgrow2)
 have H2:Hid (WrS w1.heap.size w1.heap.size N n 0 (fun _=>0) (fun i j=>((D.ev (av i) (xs j) k:Nat):Int)) w2∧Below w1.heap.size w1 w2):=
  ⟨⟨hrow2.congr (fun o _=>by rw[if_neg (by omega)]),fun i hi=>by omega,Nat.le_refl _,fun i hi=>by omega,fun i j hi=>by omega⟩,below_grown hgrow2 (Nat.le_refl _) (fun k hk=>by simp at hk)⟩
 clear hrow2 hgrow2
 obtain⟨g0,hg0⟩:∃g0,g0=w1.heap.size:=⟨_,rfl⟩
 have H3:Hid (WrS w1.heap.size g0 N n 0 (fun _=>0) (fun i j=>((D.ev (av i) (xs j) k:Nat):Int)) w2∧Below w1.heap.size w1 w2):=by rw[hg0];exact H2.out
 rw[←hg0]
 clear H2 hg0
 go_loopw [26] (fun i wr=>∃r:Nat,r≤N∧i = .int .i64 r∧Hid (∃bw,WrS w1.heap.size g0 N n r bw (fun i j=>((D.ev (av i) (xs j) k:Nat):Int)) wr∧Below w1.heap.size w1 wr)) (fun i _=>N-(intOf i).toNat)
 case atStart=>exact⟨0,by omega,rfl,_,H3.out.1,H3.out.2⟩
 case round=>
  obtain⟨r,hr,rfl,HG⟩:=hrel
  rename World=>wA
  by_cases hlt:r<N
  ·have hib:(r:Int)<(N:Int):=by omega
   obtain⟨bw,HW⟩:∃bw,Hid (WrS w1.heap.size g0 N n r bw (fun i j=>((D.ev (av i) (xs j) k:Nat):Int)) wA∧Below w1.heap.size w1 wA):=by
    obtain⟨bw,h⟩:=HG.out
    exact⟨bw,h⟩
   have hbA:Below w.heap.size w wA:=bel_up' H1.out.1 HW.out.2
   obtain⟨⟨bm,om,hmo,hml,hmc⟩,_,_⟩:=(HM.out.below hbA) r hlt
   subst hmo
   obtain⟨aor,haor⟩:∃x,x=ao r:=⟨_,rfl⟩
   obtain⟨car,hcar⟩:∃x,x=ca r:=⟨_,rfl⟩
   rw[←haor, ←hcar]at hmc
   have HEr:Hid (Calls Tryz.prog 23 #[.int .i64 D.q,.slice xo n cx,.slice aor k car] wA fun e w'=>∃g,e = .returned (.tuple #[.slice (some ⟨g,0,none⟩) n n,.int .i64 0])∧wA.heap.size≤g∧RowE g n (fun j=>D.ev (av r) (xs j) k) w'∧Below wA.heap.size wA w'):=by
    rw[haor,hcar];exact HEn.out wA r hbA hlt
   clear hbA haor hcar HG
   go_wp2_with fail
   refine HEr.out.mono ?_
   rintro e w3 ⟨gw,rfl,hgw,hrow,hb3⟩
   have H5:Hid (WrS w1.heap.size g0 N n (r+1) (fun i=>if i=r then gw else bw i) (fun i j=>((D.ev (av i) (xs j) k:Nat):Int)) (w3.setCell ⟨g0,r,none⟩ (.slice (some ⟨gw,0,none⟩) n n))∧Below w1.heap.size w1 (w3.setCell ⟨g0,r,none⟩ (.slice (some ⟨gw,0,none⟩) n n))):=
    ⟨HW.out.1.snoc hlt HW.out.2.size hb3 hgw hrow.toI (fun j _=>rfl),(bel_up' HW.out.2 hb3).setCell HW.out.1.ge _⟩
   have hout:=(HW.out.1.below hb3 (Nat.le_refl _)).out
   have c0:=hout.cell r hlt
   rw[if_neg (Nat.lt_irrefl r)]at c0
   have f0:=hout.free r
   clear hout hrow hb3 hgw
   go_wp2
   go_roundw
   case rel=>exact⟨r+1,by omega,by go_num,_,H5.out⟩
   case measure=>simp[intOf];omega
  ·have hib:¬(r:Int)<(N:Int):=by omega
   have hrN:r=N:=by omega
   obtain⟨bw,HW⟩:∃bw,Hid (WrS w1.heap.size g0 N n N bw (fun i j=>((D.ev (av i) (xs j) k:Nat):Int)) wA∧Below w1.heap.size w1 wA):=by
    obtain⟨bw,h⟩:=HG.out
    rw[hrN]at h
    exact⟨bw,h⟩
   clear hrN HG
   obtain⟨Y,hY⟩:∃Y:Nat→Nat→Int,Y=fun i j=>((D.ev (av i) (xs j) k:Nat):Int):=⟨_,rfl⟩
   have HY:Hid (∀i j,i<N→j<n→Y i j = -1∨(0≤Y i j∧Y i j<(D.q:Int))):=fun i j _ _=>by
    rw[hY]
    have:=ev_lt (fld hD) (av i) (xs j) k
    show((D.ev (av i) (xs j) k:Nat):Int) = -1∨(0≤((D.ev (av i) (xs j) k:Nat):Int)∧((D.ev (av i) (xs j) k:Nat):Int)<(D.q:Int))
    exact Or.inr ⟨by omega,by omega⟩
   have HYe:Hid (Y=fun i j=>((D.ev (av i) (xs j) k:Nat):Int)):=hY
   rw[←hY]at HW ⊢
   clear hY HEn HM
   go_wp2
   go_loopw [44] (fun i wr=>∃r:Nat,r≤L∧i = .int .i64 r∧Hid (WrS w1.heap.size g0 N n N bw (nzW D Y na np nv r) wr∧Below w1.heap.size w1 wr)) (fun i _=>L-(intOf i).toNat)
   case atStart=>exact⟨0,by omega,rfl,HW.out⟩
   case round=>
    obtain⟨r,hr,rfl,HG⟩:=hrel
    rename World=>wB
    clear hib
    by_cases hlt2:r<L
    ·have hib:(r:Int)<(L:Int):=by omega
     have hbB:Below w.heap.size w wB:=bel_up' H1.out.1 HG.out.2
     obtain⟨bn,on,hno,hnl,m0,m1,m2⟩:=(HZ.out.below hbB) r hlt2
     subst hno
     obtain⟨a,ha⟩:∃a,a=na r:=⟨_,rfl⟩
     obtain⟨p,hp⟩:∃p,p=np r:=⟨_,rfl⟩
     obtain⟨v,hv⟩:∃v,v=nv r:=⟨_,rfl⟩
     rw[←ha]at m0
     rw[←hp]at m1
     rw[←hv]at m2
     have haN:a<N:=by rw[ha];exact HP.out.2.1 r hlt2
     obtain⟨wC,hwC⟩:∃wC,wC=wB.alloc (.cells #[.int .i64 (a:Nat),.int .i64 (p:Nat),.int .i64 v] 47):=⟨_,rfl⟩
     have hbC:Below wB.heap.size wB wC:=by rw[hwC];exact(Below.refl _ _).alloc (Nat.le_refl _) _
     have rC:RowF wB.heap.size 3 47 (hbx' #[.int .i64 (a:Nat),.int .i64 (p:Nat),.int .i64 v]) wC:=by rw[hwC];exact rowF_new _ _ _ _ rfl
     have d0:wC.cell? ⟨wB.heap.size,0,none⟩=some (.int .i64 (a:Nat)):=rC.cell 0 (by omega)
     have d1:wC.cell? ⟨wB.heap.size,1,none⟩=some (.int .i64 (p:Nat)):=rC.cell 1 (by omega)
     have d2:wC.cell? ⟨wB.heap.size,2,none⟩=some (.int .i64 v):=rC.cell 2 (by omega)
     have hWC:=HG.out.1.below hbC (Nat.le_refl _)
     have oc:wC.cell? ⟨g0,a,none⟩=some (.slice (some ⟨bw a,0,none⟩) n n):=by
      have h:=hWC.out.cell a haN
      rw[if_pos haN]at h
      exact h
     have HD2:Hid (∀d,Calls Tryz.prog 54 #[.pointer (some ⟨F,0,none⟩),.slice (some ⟨bw a,0,none⟩) n n,.agg #[.int .i64 (a:Nat),.int .i64 (p:Nat),.int .i64 v]] (wC.drewN d) fun e w'=>e = .returned (.tuple #[])∧Hid (WrS w1.heap.size g0 N n N bw (nzW D Y na np nv (r+1)) w'∧Below w1.heap.size w1 w')):=fun d=>by
      have hbC1:Below w1.heap.size w1 (wC.drewN d):=below_drewN2 (bel_up' HG.out.2 hbC) d
      have hyy:=nzW_ok (na:=na) hD HY.out HP.out.2.2.1 HP.out.2.2.2 r (by omega)
      have hWd:WrS w1.heap.size g0 N n N bw (nzW D Y na np nv r) (wC.drewN d):=⟨hWC.out.drewN d,fun i hi=>(hWC.row i hi).other rfl,hWC.ge,hWC.gb,hWC.inj⟩
      refine(dist_any hD (H1.out.2.1.below hbC1 H1.out.2.2.1 H1.out.2.2.2) (cap:=n) (hWd.row a haN) (fun j hj=>hyy a j haN hj) (a:Nat) (p:=p) (by rw[hp];exact HP.out.2.2.1 r hlt2) (by rw[hv];exact HP.out.2.2.2 r hlt2)).mono ?_
      rintro e w' ⟨rfl,hr',ht'⟩
      refine⟨rfl,hWd.put haN ht' hr' (fun i hi=>?_),⟨ht'.os.trans hbC1.os,ht'.tape.trans hbC1.tape,ht'.output.trans hbC1.output,Nat.le_trans hbC1.size ht'.size,fun b hb=>(ht'.block b (Nat.lt_of_lt_of_le hb hbC1.size) (fun c=>by have:=(hWd.gb a haN).1;omega)).trans (hbC1.block b hb)⟩⟩
      show(if i=na r then dst D (nzW D Y na np nv r i) (np r) (nv r)else nzW D Y na np nv r i)=_
      rw[←ha, ←hp, ←hv]
      by_cases e:i=a
      ·rw[if_pos e,if_pos e,e]
      ·rw[if_neg e,if_neg e]
     have hlC:wB.heap.size<wC.heap.size:=rC.lt
     have hpos:(a:Int)<(N:Int):=by omega
     clear hbB ha hp hv hbC rC hWC HG
     go_wp2
     rw[←hwC]
     clear hwC
     refine quiet_tail 7 (by kernel_rfl) (by kernel_rfl) ?_
     simp only[List.take_succ_cons,List.take_zero,List.drop_succ_cons,List.drop_zero]
     repeat(go_big_quiet_step (fail))
     refine wpQuiet_nil ?_
     intro _ hw'
     obtain⟨nq,hw''⟩:=hw'
     subst hw''
     go_wp2_with (go_at_call 54;refine(HD2.out _).mono ?_;rintro e w5 ⟨rfl,H6⟩)
     go_roundw
     case rel=>exact⟨r+1,by omega,by go_num,H6.out⟩
     case measure=>simp[intOf];omega
    ·have hib:¬(r:Int)<(L:Int):=by omega
     have hrL:r=L:=by omega
     have HF:Hid (WrS w1.heap.size g0 N n N bw (nzW D Y na np nv L) wB∧Below w1.heap.size w1 wB):=by rw[←hrL];exact HG.out
     clear hrL HG
     go_wp2
     go_ret
     have hf:=HF.out
     rw[HYe.out]at hf
     exact⟨g0,rfl,⟨bw,hf.1.out,hf.1.row,Nat.le_trans H1.out.1.size hf.1.ge,fun i hi=>⟨Nat.le_trans H1.out.1.size (hf.1.gb i hi).1,(hf.1.gb i hi).2⟩,hf.1.inj⟩,bel_up' H1.out.1 hf.2⟩
set_option maxHeartbeats 8000000 in
set_option maxRecDepth 100000 in
theorem chkN_ok {D:FD}(hD:D∈fieldsL){no:Option Addr}{N n L nc:Nat}{na np:Nat→Nat}{nv:Nat→Int}{w:World}
  (hZ:NzA no L na np nv w) (hL:L≤900) (hna:∀r,r<L→na r<N) (hnp:∀r,r<L→np r<n) (hnv:∀r,r<L→nv r = -1∨(0≤nv r∧nv r<(D.q:Int))) :
  Calls Tryz.prog 24 #[.int .i64 D.q,.int .i64 (N:Nat),.int .i64 (n:Nat),.slice no L nc] w fun e w'=>e = .returned (.int .i64 0)∧Below w.heap.size w w':=by
 have HZ:Hid (NzA no L na np nv w):=hZ
 have HP:Hid ((∀r,r<L→na r<N)∧(∀r,r<L→np r<n)∧(∀r,r<L→nv r = -1∨(0≤nv r∧nv r<(D.q:Int)))):=⟨hna,hnp,hnv⟩
 clear hZ hna hnp hnv
 go_enter Tryz.func24,Tryz.ntmps24
 go_wp2_with fail
 refine(new_any hD w).mono ?_
 rintro e w1 ⟨F,T,g,rfl,hat,_,_,hb1⟩
 have H1:Hid (Below w.heap.size w w1∧FAt F T D g w1∧F<w1.heap.size∧T<w1.heap.size):=⟨hb1,hat,hat.ltF,hat.ltT⟩
 clear hat hb1
 go_wp2
 go_loopw [20] (fun i wr=>∃r:Nat,r≤L∧i = .int .i64 r∧Hid (Below w1.heap.size w1 wr)) (fun i _=>L-(intOf i).toNat)
 case atStart=>exact⟨0,by omega,rfl,Below.refl _ _⟩
 case round=>
  obtain⟨r,hr,rfl,HG⟩:=hrel
  rename World=>wB
  by_cases hlt2:r<L
  ·have hib:(r:Int)<(L:Int):=by omega
   have hbB:Below w.heap.size w wB:=bel_up' H1.out.1 HG.out
   obtain⟨bn,on,hno,hnl,m0,m1,m2⟩:=(HZ.out.below hbB) r hlt2
   subst hno
   obtain⟨a,ha⟩:∃a,a=na r:=⟨_,rfl⟩
   obtain⟨p,hp⟩:∃p,p=np r:=⟨_,rfl⟩
   obtain⟨v,hv⟩:∃v,v=nv r:=⟨_,rfl⟩
   rw[←ha]at m0
   rw[←hp]at m1
   rw[←hv]at m2
   have haN:a<N:=by rw[ha];exact HP.out.1 r hlt2
   have hpn:p<n:=by rw[hp];exact HP.out.2.1 r hlt2
   have hvv:v = -1∨D.has v=true:=by
    rw[hv]
    rcases HP.out.2.2 r hlt2 with c|c
    ·exact Or.inl c
    ·refine Or.inr ?_
     have e2:nv r=(((nv r).toNat:Nat):Int):=by omega
     rw[e2]
     exact has_of_lt (by omega)
   obtain⟨wC,hwC⟩:∃wC,wC=wB.alloc (.cells #[.int .i64 (a:Nat),.int .i64 (p:Nat),.int .i64 v] 47):=⟨_,rfl⟩
   have hbC:Below wB.heap.size wB wC:=by rw[hwC];exact(Below.refl _ _).alloc (Nat.le_refl _) _
   have rC:RowF wB.heap.size 3 47 (hbx' #[.int .i64 (a:Nat),.int .i64 (p:Nat),.int .i64 v]) wC:=by rw[hwC];exact rowF_new _ _ _ _ rfl
   have d0:wC.cell? ⟨wB.heap.size,0,none⟩=some (.int .i64 (a:Nat)):=rC.cell 0 (by omega)
   have d1:wC.cell? ⟨wB.heap.size,1,none⟩=some (.int .i64 (p:Nat)):=rC.cell 1 (by omega)
   have d2:wC.cell? ⟨wB.heap.size,2,none⟩=some (.int .i64 v):=rC.cell 2 (by omega)
   have hlC:wB.heap.size<wC.heap.size:=rC.lt
   have HC:Hid (Below w1.heap.size w1 wC):=bel_up' HG.out hbC
   have HHas:Hid (Calls Tryz.prog 45 #[.pointer (some ⟨F,0,none⟩),.int .i64 v] wC fun e w'=>e = .returned (.bool (D.has v))∧w'=wC):=has_any (H1.out.2.1.below HC.out H1.out.2.2.1 H1.out.2.2.2) v
   have g1:¬(a:Int)<0:=by omega
   have g2:(a:Int)<(N:Int):=by omega
   have g3:¬(p:Int)<0:=by omega
   have g4:(p:Int)<(n:Int):=by omega
   clear hbB ha hp hv hbC rC HG
   rw[hwC]at d0 d1 d2 hlC HHas
   rcases hvv with rfl|hvv
   ·go_wp2
    go_roundw
    case rel=>exact⟨r+1,by omega,by go_num,by rw[←hwC];exact HC.out⟩
    case measure=>simp[intOf];omega
   ·by_cases hv1:v = -1
    ·exfalso
     rw[hv1]at hvv
     unfold FD.has at hvv
     simp at hvv
    ·rw[hvv]at HHas
     have e1:(v == -1)=false:=by simpa using hv1
     go_wp2_with fail
     refine HHas.out.mono ?_
     rintro e w' ⟨rfl,hw⟩
     have hw:=hw.symm
     subst hw
     go_wp2
     go_roundw
     case rel=>exact⟨r+1,by omega,by go_num,by rw[←hwC];exact HC.out⟩
     case measure=>simp[intOf];omega
  ·have hib:¬(r:Int)<(L:Int):=by omega
   have HF:Hid (Below w1.heap.size w1 wB):=HG.out
   clear HG
   go_wp2
   go_ret
   exact⟨rfl,bel_up' H1.out.1 HF.out⟩
set_option maxHeartbeats 8000000 in
set_option maxRecDepth 100000 in
theorem lchk_ok {D:FD}(hD:D∈fieldsL){xo mo no:Option Addr}{n cx N mc L nc k:Nat}{xs:Nat→Nat}{ao:Nat→Option Addr}{ca:Nat→Nat}{av:Nat→Nat→Nat}{na np:Nat→Nat}{nv:Nat→Int}{w:World}(hn1:1≤n)(hn:n≤64)(hcn:n≤cx)(hx:∀i, i<n→xs i<D.q)(hne:∀i j, i<n→j<n→i≠j→xs i≠xs j)(hX:Sl xo n xs w)(hlx:LtB xo w.heap.size)(hk1:1≤k)(hk:k≤n)
  (hM:MsA mo N k ao ca av w) (hE:∀i,i<N→El D (av i)) (hN:N≤200) (hZ:NzA no L na np nv w) (hL:L≤200) (hna:∀r,r<L→na r<N) (hnp:∀r,r<L→np r<n) (hnv:∀r,r<L→nv r = -1∨(0≤nv r∧nv r<(D.q:Int))) :
  Calls Tryz.prog 8 #[.int .i64 D.q,.slice xo n cx,.int .i64 (k:Nat),.slice mo N mc,.slice no L nc] w fun e w'=>e = .returned (.int .i64 0)∧Below w.heap.size w w':=by
 have HM:Hid (MsA mo N k ao ca av w):=hM
 have HCk:Hid (Calls Tryz.prog 22 #[.int .i64 D.q,.slice xo n cx,.int .i64 (k:Nat)] w fun e w'=>e = .returned (.int .i64 0)∧Below w.heap.size w w'):=rcheck_ok hD hn1 hn hcn hx hne hX hlx hk1 hk
 have HEn:Hid (∀wx i,Below w.heap.size w wx→i<N→Calls Tryz.prog 23 #[.int .i64 D.q,.slice xo n cx,.slice (ao i) k (ca i)] wx fun e w'=>∃g,e = .returned (.tuple #[.slice (some ⟨g,0,none⟩) n n,.int .i64 0])∧wx.heap.size≤g∧RowE g n (fun j=>D.ev (av i) (xs j) k) w'∧Below wx.heap.size wx w'):=fun wx i hb hi=>by
  obtain⟨_,h2,h3⟩:=(hM.below hb) i hi
  exact encode_newE hD hn1 hn hcn hx hne (hX.below hb hlx) (hlx.mono hb.size) hk1 hk (hE i hi) h2 h3
 have HNz:Hid (∀wx,Below w.heap.size w wx→Calls Tryz.prog 24 #[.int .i64 D.q,.int .i64 (N:Nat),.int .i64 (n:Nat),.slice no L nc] wx fun e w'=>e = .returned (.int .i64 0)∧Below wx.heap.size wx w'):=fun wx hb=>chkN_ok hD (hZ.below hb) (by omega) hna hnp hnv
 clear hM hZ hE hna hnp hnv hX hlx hx hne
 have g1:¬(200:Int)<(N:Int):=by omega
 have g2:¬(200:Int)<(L:Int):=by omega
 go_enter Tryz.func8,Tryz.ntmps8
 go_wp2_with fail
 refine HCk.out.mono ?_
 rintro e w1 ⟨rfl,hb1⟩
 have H1:Hid (Below w.heap.size w w1):=hb1
 clear hb1
 go_wp2
 go_loopw [33] (fun i wr=>∃r:Nat,r≤N∧i = .int .i64 r∧Hid (Below w.heap.size w wr)) (fun i _=>N-(intOf i).toNat)
 case atStart=>exact⟨0,by omega,rfl,H1.out⟩
 case round=>
  obtain⟨r,hr,rfl,HG⟩:=hrel
  rename World=>wA
  by_cases hlt:r<N
  ·have hib:(r:Int)<(N:Int):=by omega
   obtain⟨⟨bm,om,hmo,hml,hmc⟩,_,_⟩:=(HM.out.below HG.out) r hlt
   subst hmo
   obtain⟨aor,haor⟩:∃x,x=ao r:=⟨_,rfl⟩
   obtain⟨car,hcar⟩:∃x,x=ca r:=⟨_,rfl⟩
   rw[←haor, ←hcar]at hmc
   have HEr:Hid (Calls Tryz.prog 23 #[.int .i64 D.q,.slice xo n cx,.slice aor k car] wA fun e w'=>∃g,e = .returned (.tuple #[.slice (some ⟨g,0,none⟩) n n,.int .i64 0])∧wA.heap.size≤g∧RowE g n (fun j=>D.ev (av r) (xs j) k) w'∧Below wA.heap.size wA w'):=by
    rw[haor,hcar];exact HEn.out wA r HG.out hlt
   clear haor hcar
   go_wp2_with fail
   refine HEr.out.mono ?_
   rintro e w3 ⟨gw,rfl,_,_,hb3⟩
   have H5:Hid (Below w.heap.size w w3):=bel_up' HG.out hb3
   clear hb3
   go_wp2
   go_roundw
   case rel=>exact⟨r+1,by omega,by go_num,H5.out⟩
   case measure=>simp[intOf];omega
  ·have hib:¬(r:Int)<(N:Int):=by omega
   have HZ2:Hid (Calls Tryz.prog 24 #[.int .i64 D.q,.int .i64 (N:Nat),.int .i64 (n:Nat),.slice no L nc] wA fun e w'=>e = .returned (.int .i64 0)∧Below wA.heap.size wA w'):=HNz.out wA HG.out
   go_wp2_with fail
   refine HZ2.out.mono ?_
   rintro e w3 ⟨rfl,hb3⟩
   have H5:Hid (Below w.heap.size w w3):=bel_up' HG.out hb3
   clear hb3 HG
   go_wp2
   go_ret
   exact⟨rfl,H5.out⟩
end
end Go.Proofs.YtedifobeggabnaaGreat
