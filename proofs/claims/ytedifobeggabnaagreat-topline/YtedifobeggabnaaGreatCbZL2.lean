/- Texts of ours, one behind the other: ZL2. -/
import Derived.Test.YtedifobeggabnaaGreatCbL10
import Derived.Test.YtedifobeggabnaaGreatCbZI0
namespace Go.Proofs.YtedifobeggabnaaGreat
open Go.RowKit Go.Sort
set_option maxHeartbeats 4000000 in
set_option maxRecDepth 100000 in
theorem places_anyE {ao:Option Addr}{n ca:Nat}{z:Nat→Int}{w:World}(h:Arg ao n ca z w)(hn:n≤1000)(q k:Nat)(hq:1≤q)(hq2:q≤100000)(hk:k≤q) :
  Calls Tryz.prog 18 #[.slice ao n ca,.int .i64 q,.int .i64 k] w fun e w'=>∃g c,e = .returned (.slice (some ⟨g,0,none⟩) k q)∧w.heap.size≤g∧RowE g q c w'∧Perm' q c∧Below w.heap.size w w':=by
 have HA:Hid (Arg ao n ca z w):=h
 clear h
 go_enter Tryz.func18,Tryz.ntmps18
 go_wp2_with (at_make;refine make_int rfl _ _ rfl _ q rfl rfl (by omega) (by omega) ?_;intro w2 hown2 hgrow2)
 have HI:Hid (RowE w.heap.size q pnil w2∧Below w.heap.size w w2):=⟨row_zerosE hown2,below_grown hgrow2 (Nat.le_refl _) (fun k hk=>by simp at hk)⟩
 clear hown2 hgrow2
 obtain⟨g,hg⟩:∃g,g=w.heap.size:=⟨_,rfl⟩
 rw[←hg]at HI ⊢
 have hgw:w.heap.size≤g:=by omega
 have HI2:Hid (RowE g q pnil w2∧Below w.heap.size w w2):=by
  have h:=HI.out
  exact⟨h.1,by rw[←hg];exact h.2⟩
 clear HI hg
 go_wp2_with fail
 go_loopw [8] (fun i wr=>∃r:Nat,r≤q∧i = .int .i64 r∧Hid (RowE g q (fun k=>if k<r then k else 0) wr∧Below w.heap.size w wr)) (fun i _=>q-(intOf i).toNat)
 case atStart=>exact⟨0,by omega,rfl,HI2.out.1.congr (fun k _=>by rw[if_neg (by omega)];rfl),HI2.out.2⟩
 case round=>
  clear HI2
  obtain⟨r,hr,rfl,HG⟩:=hrel
  by_cases hlt:r<q
  ·have hib:(r:Int)<(q:Int):=by omega
   have hfr:=HG.out.1.free r
   have hcl:=HG.out.1.cell r hlt
   have HR:Hid (RowE g q (fun k=>if k<r+1 then k else 0) (wr.setCell ⟨g,r,none⟩ (.int .i64 (r:Nat)))∧Below w.heap.size w (wr.setCell ⟨g,r,none⟩ (.int .i64 (r:Nat)))):=by
    refine⟨HG.out.1.store r r (fun j _=>?_),HG.out.2.setCell hgw _⟩
    by_cases e:j=r
    ·rw[if_pos e,if_pos (by omega),e]
    ·rw[if_neg e]
     by_cases e2:j<r
     ·rw[if_pos e2,if_pos (by omega)]
     ·rw[if_neg e2,if_neg (by omega)]
   go_wp2
   go_roundw
   case rel=>exact⟨r+1,by omega,by go_num,HR.out⟩
   case measure=>simp[intOf];omega
  ·have hib:¬(r:Int)<(q:Int):=by omega
   have HI3:Hid (RowE g q (fun k=>k) wr∧Below w.heap.size w wr∧Perm' q (fun k=>k)):=⟨HG.out.1.congr (fun k hk=>by rw[if_pos (by omega)]),HG.out.2,fun j hj=>hj,fun i j hij _=>Nat.ne_of_lt hij⟩
   clear HG hlt
   go_wp2_with fail
   go_loopw [9] (fun i wi=>∃(r:Nat) (c:Nat→Nat),r≤k∧i = .int .i64 r∧Hid (RowE g q c wi∧Below w.heap.size w wi∧Perm' q c)) (fun i _=>k-(intOf i).toNat)
   case atStart=>exact⟨0,_,by omega,rfl,HI3.out⟩
   case round=>
    clear HI3
    obtain⟨s,c,hs,rfl,HG⟩:=hrel
    by_cases hlt:s<k
    ·have hib:(s:Int)<(k:Int):=by omega
     have HR:Hid (Calls Tryz.prog 17 #[.slice ao n ca,.int .i64 s] wr fun e w'=>(∃x,e = .returned (.int .i64 x)∧I64 x)∧∃k,w'=wr.drewN k):=raw_any (HA.out.below HG.out.2.1) hn s (by omega)
     go_wp2_with fail
     refine HR.out.mono ?_
     rintro e w1 ⟨⟨x,rfl,hx⟩,k1,hw1⟩
     have HG1:Hid (RowE g q c w1∧Below w.heap.size w w1∧Perm' q c):=by rw[hw1];exact⟨HG.out.1.drewN _,below_drewN2 HG.out.2.1 _,HG.out.2.2⟩
     clear hw1 HR HG
     obtain⟨p,hp,hpl⟩:∃p:Nat,pick x ((q:Int)-(s:Int))=(p:Int)∧s+p<q:=by
      have hp1:=pick_lo x ((q:Int)-(s:Int)) (by omega)
      have hp2:=pick_hi x ((q:Int)-(s:Int)) (by omega)
      exact⟨(pick x ((q:Int)-(s:Int))).toNat,by omega,by omega⟩
     have HP:Hid (∀w:World,Calls Tryz.prog 15 #[.int .i64 x,.int .i64 ((q:Int)-(s:Int))] w fun e w'=>e = .returned (.int .i64 p)∧w'=w):=fun w=>by rw[←hp];exact pick_any x _ w hx.1 hx.2 (by omega) (by omega)
     clear hp hx
     have hc1:=HG1.out.1.cell s (by omega)
     have hc2:=HG1.out.1.cell (s+p) hpl
     have hf1:=HG1.out.1.free s
     obtain⟨u,hu⟩:∃u,u=c s:=⟨_,rfl⟩
     obtain⟨v,hv⟩:∃v,v=c (s+p):=⟨_,rfl⟩
     rw[←hu]at hc1
     rw[←hv]at hc2
     have hib2:(s:Int)+(p:Int)<(q:Int):=by omega
     have hib3:(s:Int)<(q:Int):=by omega
     have hib4:(0:Int)≤(s:Int)+(p:Int):=by omega
     have hib5:((s:Int)+(p:Int)).toNat=s+p:=by omega
     have hr1:RowE g q (fun j=>if j=s then v else c j) (w1.setCell ⟨g,s,none⟩ (.int .i64 (v:Nat))):=HG1.out.1.store s v (fun j _=>rfl)
     have hf2:=hr1.free (s+p)
     have hc3:=hr1.cell (s+p) hpl
     obtain⟨t,ht⟩:∃t,t=(if s+p=s then v else c (s+p)):=⟨_,rfl⟩
     rw[←ht]at hc3
     have HR:Hid (RowE g q (swp c s (s+p)) ((w1.setCell ⟨g,s,none⟩ (.int .i64 (v:Nat))).setCell ⟨g,s+p,none⟩ (.int .i64 (u:Nat)))∧Below w.heap.size w ((w1.setCell ⟨g,s,none⟩ (.int .i64 (v:Nat))).setCell ⟨g,s+p,none⟩ (.int .i64 (u:Nat)))∧Perm' q (swp c s (s+p))):=by
      refine⟨hr1.store (s+p) u (fun j _=>by unfold swp;rw[hu,hv]),(HG1.out.2.1.setCell hgw _).setCell hgw _,swp_perm HG1.out.2.2 (by omega) hpl⟩
     clear hu hv hr1 ht
     go_wp2_with (go_at_call 15;refine(HP.out _).mono ?_;rintro e w' ⟨rfl,hw⟩;have hw:=hw.symm;subst hw)
     go_roundw
     case rel=>exact⟨s+1,_,by omega,by go_num,HR.out⟩
     case measure=>simp[intOf];omega
    ·have hib:¬(s:Int)<(k:Int):=by omega
     have hib2:(k:Int)≤(q:Int):=by omega
     go_wp2
     go_ret
     exact⟨g,rfl,hgw,c,HG.out.1,HG.out.2.2,HG.out.2.1⟩
theorem RowE.apart {base g N:Nat}{c:Nat→Nat}{v:Value}{l:List Value}{w:World}(h:RowE g N c w)(ho:OwnV base v l w):some g≠v.ownBlock:=by
 obtain⟨f,⟨cs,h1,_⟩,_⟩:=h
 rcases ho.2 with⟨h2,_⟩|⟨g',cap',cur,hv,_,hh,_⟩
 ·rw[h2];intro e;cases e
 ·rw[hv]
  intro e
  have e:some g=some g':=e
  cases e
  rw[h1]at hh
  simp at hh
end Go.Proofs.YtedifobeggabnaaGreat
