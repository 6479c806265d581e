/- Texts of ours, one behind the other: ZF7 ZF8 ZF9 ZF10 ZF11 ZF12. -/
import Derived.Test.YtedifobeggabnaaGreatCbZE22
import Derived.Conc.TokenWalk
import Derived.Conc.AppendWalk
namespace Go.Proofs.YtedifobeggabnaaGreat
section
open Go.Conc Go.RowKit Go.ConcR.Gen
open Go.ConcN.Gen
section
variable {d:DlP}{O:Nat→Prop}{w w1:World}{tk:Nat→Option Value}{i j:Nat}{fr:Frame}{cs:List Frame}{tM:TypeId}{go:Option Addr}{gn gc:Nat}{e:Int}{l:Bool}
def TldZ(x:Nat)(w:World):Prop:=w.heap[x]?=some (.cells #[.int .i64 0,.slice none 0 0,.int .i64 0,.bool false] 100)
def TldV(x j:Nat)(go:Option Addr)(gn gc:Nat)(e:Int)(l:Bool)(w:World):Prop:=w.heap[x]?=some (.cells #[.int .i64 j,.slice go gn gc,.int .i64 e,.bool l] 100)
set_option maxRecDepth 100000 in
set_option maxHeartbeats 8000000 in
theorem dl_took(h:d.Ok tM)(hR:SelF d i O fr cs)(hG:GotF d tk O w)(hlv:Lvx (d.p.Kx Tryz.prog) w)(hrd:Rdx (d.p.Kx Tryz.prog) w){Stop:(Nat→Prop)→Goroutine→World→Prop}{m:Nat}(hj:j<d.p.N)
  (hN:∀O bg w fr,IsBg d O bg→DlF d bg (fun x=>if x=j then some (.agg #[.slice go gn gc,.int .i64 e,.bool l])else tk x) w→DlH d bg i fr→H0 (d.p.Kx Tryz.prog) Stop m O (G fr (d.c::d.cs)) w):H0 (d.p.Kx Tryz.prog) Stop (m+200) O (G (fr.finish (selV (d.p.Kx Tryz.prog) 1 (.agg #[.int .i64 j,.slice go gn gc,.int .i64 e,.bool l]) true i)) cs) w:=by
 obtain⟨bg,hB,rfl,v3,v4,v12,v13,v14,v15,v16,v17,v18,v19,v20,v21,v22,v23,v24,v25,v26,v27,v28,v29,v30,v32,v33,v34,v35,v36,v39,v40,v41,v42,v43,v44,v45,v46,v47,v48,v49,v50,v51,v52,v53,v54,v55,v56,v57,v58,v59,v60,v61,v62,v63,v64,v65,rfl⟩:=hR
 obtain⟨bg',hB',hG⟩:=hG
 obtain rfl:=hB.eq hB'
 have RL:∀ {w w1},DlF d bg tk w→Rly d.p.rd (Lvx (d.p.Kx Tryz.prog)) O w w1→DlF d bg tk w1:=dlf_rely hB.1
 have hF:DlF d bg tk w:=⟨⟨hlv,hrd⟩,hG⟩
 have hNN:=h.N
 rw[Frame.finish_at,selV_one]
 have hS:∀(v3 v4 v12 v13 v14 v15 v16 v17 v18 v19 v20 v21 v22 v23 v24 v25 v26 v27 v28 v29 v30 v31 v32 v33 v34 v35 v36 v37 v38 v39 v40 v41 v42 v43 v44 v45 v46 v47 v48 v49 v50 v51 v52 v53 v54 v55 v56 v57 v58 v59 v60 v61 v62 v63 v64 v65:Value) (O:Nat→Prop) (w:World),IsBg d O bg→DlF d bg (fun x=>if x=j then some (.agg #[.slice go gn gc,.int .i64 e,.bool l])else tk x) w→HG Tryz.prog true d.p.rd (Lvx (d.p.Kx Tryz.prog)) Stop m O (G ((base 25).at ⟨#[d.ws,.int .i64 d.hs,fnV d.p.T d.p.b6 d.p.b7 d.p.b8,v3,v4,.pointer (some ⟨d.p.bM,0,none⟩),.slice none 0 0,.pointer (some ⟨d.p.bO,0,none⟩),.pointer (some ⟨d.p.bB,0,none⟩),.pointer (some ⟨d.p.Wg,0,none⟩),.slice (some ⟨bg,0,none⟩) d.p.N d.p.N,.int .i64 i,v12,v13,v14,v15,v16,v17,v18,v19,v20,v21,v22,v23,v24,v25,v26,v27,v28,v29,v30,v31,v32,v33,v34,v35,v36,v37,v38,v39,v40,v41,v42,v43,v44,v45,v46,v47,v48,v49,v50,v51,v52,v53,v54,v55,v56,v57,v58,v59,v60,v61,v62,v63,v64,v65],[]⟩ [.code (dlL2x Tryz.f25),.inLoop (dlL2x Tryz.f25),.inBlock 2,.code ((dlCx Tryz.f25) 7)]) (d.c::d.cs)) w:=fun v3 v4 v12 v13 v14 v15 v16 v17 v18 v19 v20 v21 v22 v23 v24 v25 v26 v27 v28 v29 v30 v31 v32 v33 v34 v35 v36 v37 v38 v39 v40 v41 v42 v43 v44 v45 v46 v47 v48 v49 v50 v51 v52 v53 v54 v55 v56 v57 v58 v59 v60 v61 v62 v63 v64 v65 O w hB hF=>hN O bg w _ hB hF ⟨v3,v4,v12,v13,v14,v15,v16,v17,v18,v19,v20,v21,v22,v23,v24,v25,v26,v27,v28,v29,v30,v31,v32,v33,v34,v35,v36,v37,v38,v39,v40,v41,v42,v43,v44,v45,v46,v47,v48,v49,v50,v51,v52,v53,v54,v55,v56,v57,v58,v59,v60,v61,v62,v63,v64,v65,rfl⟩
 clear hN
 unfold H0
 generalize (dlCx Tryz.f25) 7=c7 at hS ⊢
 generalize hL:(dlL2x Tryz.f25)=L2 at hS ⊢
 simp only[dlR15x,dlB2x,dlL2x,dlCx,seqTl,Tryz.f25]
 walk_nrm
 refine goes_hg (n:=40) (m:=m+160) ?_
 repeat(first|u_c stepG_region_end RL hF|u_c stepG_seq RL hF|u_reg RL hF|u_cnd true RL hF|u_cnd false RL hF|u_c stepG_skip RL hF|u_op RL hF|u_skip RL hF)
 u_c stepG_block RL hF
 repeat(first|u_c stepG_region_end RL hF|u_c stepG_seq RL hF|u_reg RL hF|u_cnd true RL hF|u_cnd false RL hF|u_c stepG_skip RL hF|u_op RL hF|u_skip RL hF)
 refine Goes.stop (fun w₁ h₁=>?_)
 replace hF:=RL hF h₁
 clear h₁
 refine hg_up 59 (n:=m+101) ?_
 refine hg_alloc2 RL hF (.cells #[.int .i64 0,.slice none 0 0,.int .i64 0,.bool false] 100) rfl rfl (by decide) (fun w1=>by go_simp) (fun w1=>by simp[go_sem]) (fun w1 hF1=>?_)
 obtain⟨x,hx⟩:∃x,x=w1.heap.size:=⟨_,rfl⟩
 have hd1:=h.ok.hdw hF1.1.2
 have hxr:¬d.p.rd x:=fun c=>by have:=hd1.lt x c;omega
 have hxb:x≠bg:=by have:=lt_of_some hF1.2;omega
 have hxW:x≠d.p.Wg:=by
  obtain⟨st,sm,hl⟩:=hF1.1.1
  have:d.p.Wg<w1.heap.size:=lt_of_some hl
  omega
 have hBx:IsBg d (fun y=>O y∨y=x) bg:=⟨Or.inl hB.1,fun b hb=>hb.elim (hB.2.1 b) fun e=>by have:=lt_of_some hF1.2;omega,hB.2.2⟩
 have hF2:DlF d bg tk { w1 with heap:=w1.heap.push (.cells #[.int .i64 0,.slice none 0 0,.int .i64 0,.bool false] 100)}∧TldZ x { w1 with heap:=w1.heap.push (.cells #[.int .i64 0,.slice none 0 0,.int .i64 0,.bool false] 100)}:=by
  refine⟨dlf_keep (x:=x) h (fun b hb _=>?_) ⟨hxr,hxb,hxW⟩ hF1,?_⟩
  ·show(w1.heap.push _)[b]?=_
   rw[Array.getElem?_push,if_neg (by omega)]
  ·subst hx
   show(w1.heap.push _)[w1.heap.size]?=_
   simp
 rw[←hx]
 clear hF hd1
 generalize hw2:({ w1 with heap:=w1.heap.push (.cells #[.int .i64 0,.slice none 0 0,.int .i64 0,.bool false] 100)}:World)=w2 at hF2 ⊢
 clear hw2 hF1 hx
 have RL2:∀ {w w1},(DlF d bg tk w∧TldZ x w)→Rly d.p.rd (Lvx (d.p.Kx Tryz.prog)) (fun y=>O y∨y=x) w w1→(DlF d bg tk w1∧TldZ x w1):=fun h r=>⟨dlf_rely hBx.1 h.1 r,(r.stb x (Or.inr (Or.inr rfl))).trans h.2⟩
 walk_nrm
 refine hg_stores (x:=x) (C' := #[.int .i64 j,.slice go gn gc,.int .i64 e,.bool l]) (f:=fun w=>(((w.setCell ⟨x,0,none⟩ (.int .i64 j)).setCell ⟨x,1,none⟩ (.slice go gn gc)).setCell ⟨x,2,none⟩ (.int .i64 e)).setCell ⟨x,3,none⟩ (.bool l)) (es := #[⟨.cell ⟨x,0,none⟩,true,false⟩,⟨.cell ⟨x,1,none⟩,true,false⟩,⟨.cell ⟨x,2,none⟩,true,false⟩,⟨.cell ⟨x,3,none⟩,true,false⟩]) RL2 hF2 (Or.inr rfl) (fun w h=>h.2) rfl rfl (by decide) (fun w1 h1=>?_) (fun w1 h1=>?_) (fun w1 h1=>?_) (fun E hE=>?_) (fun w1 w2 hw1 hk hz hx2=>?_)
 ·refine⟨set_of (set_of (set_of (set_of h1 0 _) 1 _) 2 _) 3 _,by rw[size_setCell,size_setCell,size_setCell,size_setCell],⟨rfl,rfl,rfl⟩,fun y hy=>by rw[heap_setCell,if_neg hy,heap_setCell,if_neg hy,heap_setCell,if_neg hy,heap_setCell,if_neg hy]⟩
 ·have c0:=cell_of (o:=0) h1 rfl
  have f0:=thaw_of h1 0
  have h2:=set_of h1 0 (.int .i64 j)
  have c1:=cell_of (o:=1) h2 rfl
  have f1:=thaw_of h2 1
  have h3:=set_of h2 1 (.slice go gn gc)
  have c2:=cell_of (o:=2) h3 rfl
  have f2:=thaw_of h3 2
  have h4:=set_of h3 2 (.int .i64 e)
  have c3:=cell_of (o:=3) h4 rfl
  have f3:=thaw_of h4 3
  go_simp
 ·have c0:=cell_of (o:=0) h1 rfl
  have f0:=thaw_of h1 0
  have h2:=set_of h1 0 (.int .i64 j)
  have c1:=cell_of (o:=1) h2 rfl
  have f1:=thaw_of h2 1
  have h3:=set_of h2 1 (.slice go gn gc)
  have c2:=cell_of (o:=2) h3 rfl
  have f2:=thaw_of h3 2
  have h4:=set_of h3 2 (.int .i64 e)
  have c3:=cell_of (o:=3) h4 rfl
  have f3:=thaw_of h4 3
  simp[go_sem, *]
  rw[events_store (hv:=rfl),events_store (hv:=rfl),c1,c3]
  simp only[f1,f3]
  rfl
 ·simp only[List.mem_toArray,List.mem_cons,List.not_mem_nil,or_false]at hE
  rcases hE with rfl|rfl|rfl|rfl<;>exact⟨_,rfl⟩
 ·replace hF:DlF d bg tk w2∧TldV x j go gn gc e l w2:=⟨dlf_keep (x:=x) h (fun b _ hb=>hk b hb) ⟨hxr,hxb,hxW⟩ hw1.1,hx2⟩
  clear hw1 hk hz hx2 hF2 RL2
  have RL3:∀ {w w1},(DlF d bg tk w∧TldV x j go gn gc e l w)→Rly d.p.rd (Lvx (d.p.Kx Tryz.prog)) (fun y=>O y∨y=x) w w1→(DlF d bg tk w1∧TldV x j go gn gc e l w1):=fun h r=>⟨dlf_rely hBx.1 h.1 r,(r.stb x (Or.inr (Or.inr rfl))).trans h.2⟩
  walk_nrm
  refine goes_hg (n:=30) (m:=m+69) ?_
  repeat(first|u_c stepG_region_end RL3 hF|u_c stepG_seq RL3 hF|u_reg RL3 hF|u_cnd true RL3 hF|u_cnd false RL3 hF|u_c stepG_skip RL3 hF|u_op RL3 hF|u_skip RL3 hF)
  refine Goes.stop (fun w₁ h₁=>?_)
  replace hF:=RL3 hF h₁
  clear h₁
  refine hg_up 10 (n:=m+59) ?_
  refine hg_load (.int .i64 j) rfl rfl (by decide) (Or.inr (Or.inr rfl)) (cell_of (o:=0) hF.2 rfl) (fun w1 h1=>by go_simp) (fun w1 h1=>by simp[go_sem, *]) ?_
  walk_nrm
  refine goes_hg (n:=9) (m:=m+49) ?_
  u_op RL3 hF
  refine Goes.stop (fun w₁ h₁=>?_)
  replace hF:=RL3 hF h₁
  clear h₁
  refine hg_value (.agg #[.slice go gn gc,.int .i64 e,.bool l]) rfl rfl (by decide) (fun w1 h1=>?_) (fun w1 h1 E hE=>?_) ?_
  ·have hx1:=(RL3 hF h1).2
   unfold TldV at hx1
   have c1:=cell_of (o:=1) hx1 rfl
   have c2:=cell_of (o:=2) hx1 rfl
   have c3:=cell_of (o:=3) hx1 rfl
   go_simp
  ·have hx1:=(RL3 hF h1).2
   unfold TldV at hx1
   have hl:=lt_of_some hx1
   have c1:=cell_of (o:=1) hx1 rfl
   have c2:=cell_of (o:=2) hx1 rfl
   have c3:=cell_of (o:=3) hx1 rfl
   have h0:∀Es:Array Event,Es = #[⟨.cell ⟨x,1,none⟩,false,false⟩,⟨.cell ⟨x,2,none⟩,false,false⟩,⟨.cell ⟨x,3,none⟩,false,false⟩]→E∈Es→EvT d.p.rd (fun y=>O y∨y=x) w1.heap.size E:=fun Es h0 hm=>by
    rw[h0]at hm
    simp only[List.mem_toArray,List.mem_cons,List.not_mem_nil,or_false]at hm
    rcases hm with rfl|rfl|rfl<;>exact⟨rfl,hl,Or.inl (Or.inr rfl)⟩
   refine h0 _ ?_ hE
   simp[go_sem, *]
  walk_nrm
  refine goes_hg (n:=20) (m:=m+28) ?_
  repeat(first|u_c stepG_region_end RL3 hF|u_c stepG_seq RL3 hF|u_reg RL3 hF|u_cnd true RL3 hF|u_cnd false RL3 hF|u_c stepG_skip RL3 hF|u_op RL3 hF|u_skip RL3 hF)
  refine Goes.stop (fun w₁ h₁=>?_)
  replace hF:=RL3 hF h₁
  clear h₁
  refine hg_stores (x:=bg) (C:=gotA d.p.N tk) (C':=gotA d.p.N fun x=>if x=j then some (.agg #[.slice go gn gc,.int .i64 e,.bool l])else tk x) (f:=fun w=>((w.setCell ⟨bg,j*3,none⟩ (.slice go gn gc)).setCell ⟨bg,j*3+1,none⟩ (.int .i64 e)).setCell ⟨bg,j*3+2,none⟩ (.bool l)) (es := #[⟨.cell ⟨bg,j*3,none⟩,true,false⟩,⟨.cell ⟨bg,j*3+1,none⟩,true,false⟩,⟨.cell ⟨bg,j*3+2,none⟩,true,false⟩]) RL3 hF (Or.inl hB.1) (fun w h=>h.1.2) rfl rfl (by decide) (fun w1 h1=>?_) (fun w1 h1=>?_) (fun w1 h1=>?_) (fun E hE=>?_) (fun w1 w2 hw1 hk hz hx2=>?_)
  ·refine⟨?_,by rw[size_setCell,size_setCell,size_setCell],⟨rfl,rfl,rfl⟩,fun y hy=>by rw[heap_setCell,if_neg hy,heap_setCell,if_neg hy,heap_setCell,if_neg hy]⟩
   have:=set_of (set_of (set_of h1 (j*3) (.slice go gn gc)) (j*3+1) (.int .i64 e)) (j*3+2) (.bool l)
   rw[Nat.mul_comm j 3,gotA_set hj]at this
   rw[Nat.mul_comm j 3]
   exact this
  ·have c0:=cell_of (o:=j*3) h1 (gotA_get (by omega))
   have f0:=thaw_of h1 (j*3)
   have h2:=set_of h1 (j*3) (.slice go gn gc)
   have c1:=cell_of (o:=j*3+1) (v:=gotC tk (j*3+1)) h2 (by rw[Array.getElem?_setIfInBounds_ne (by omega)];exact gotA_get (by omega))
   have f1:=thaw_of h2 (j*3+1)
   have h3:=set_of h2 (j*3+1) (.int .i64 e)
   have c2:=cell_of (o:=j*3+2) (v:=gotC tk (j*3+2)) h3 (by rw[Array.getElem?_setIfInBounds_ne (by omega),Array.getElem?_setIfInBounds_ne (by omega)];exact gotA_get (by omega))
   have f2:=thaw_of h3 (j*3+2)
   clear hF
   go_simp
  ·have c0:=cell_of (o:=j*3) h1 (gotA_get (by omega))
   have f0:=thaw_of h1 (j*3)
   have h2:=set_of h1 (j*3) (.slice go gn gc)
   have c1:=cell_of (o:=j*3+1) (v:=gotC tk (j*3+1)) h2 (by rw[Array.getElem?_setIfInBounds_ne (by omega)];exact gotA_get (by omega))
   have f1:=thaw_of h2 (j*3+1)
   have h3:=set_of h2 (j*3+1) (.int .i64 e)
   have c2:=cell_of (o:=j*3+2) (v:=gotC tk (j*3+2)) h3 (by rw[Array.getElem?_setIfInBounds_ne (by omega),Array.getElem?_setIfInBounds_ne (by omega)];exact gotA_get (by omega))
   have f2:=thaw_of h3 (j*3+2)
   clear hF
   simp[go_sem, *]
   rw[events_store (hv:=rfl),events_store (hv:=rfl),c0,c2]
   simp only[f0,f2]
   rfl
  ·simp only[List.mem_toArray,List.mem_cons,List.not_mem_nil,or_false]at hE
   rcases hE with rfl|rfl|rfl<;>exact⟨_,rfl⟩
  ·have hF4:DlF d bg (fun x=>if x=j then some (.agg #[.slice go gn gc,.int .i64 e,.bool l])else tk x) w2:=by
    obtain⟨⟨⟨st,sm,hl⟩,hr⟩,hg⟩:=hw1.1
    refine⟨⟨⟨st,sm,(hk _ fun c=>?_).trans hl⟩,fun b hb=>(hk b fun c=>?_).trans (hr b hb)⟩,hx2⟩
    ·exact hB.2.2.2.1 c.symm
    ·exact hB.2.2.1 (c▸hb)
   clear hw1 hk hz hx2 hF RL3
   have RL4:∀ {w w1},DlF d bg (fun x=>if x=j then some (.agg #[.slice go gn gc,.int .i64 e,.bool l])else tk x) w→Rly d.p.rd (Lvx (d.p.Kx Tryz.prog)) (fun y=>O y∨y=x) w w1→DlF d bg (fun x=>if x=j then some (.agg #[.slice go gn gc,.int .i64 e,.bool l])else tk x) w1:=dlf_rely hBx.1
   walk_nrm
   refine goes_hg (n:=27) (m:=m) ?_
   u_c stepG_region_end RL4 hF4
   u_c stepG_inBlock RL4 hF4
   u_c stepG_inBlock RL4 hF4
   u_c stepG_inLoop RL4 hF4
   refine Goes.stop (fun w₁ h₁=>?_)
   exact hS _ _ _ _ _ _ _ _ _ _ _ _ _ _ _ _ _ _ _ _ _ _ _ _ _ _ _ _ _ _ _ _ _ _ _ _ _ _ _ _ _ _ _ _ _ _ _ _ _ _ _ _ _ _ _ _ _ w₁ hBx (RL4 hF4 h₁)
end
end
section
open Go.Conc Go.RowKit Go.ConcR.Gen
section
variable {d:DlP}{O:Nat→Prop}{i:Nat}{fr:Frame}{cs:List Frame}{tM:TypeId}
set_option maxRecDepth 100000 in
set_option maxHeartbeats 4000000 in
theorem dl_sel(h:d.Ok tM)(hR:SelF d i O fr cs)(w:World):stepG Tryz.prog true (G fr cs) w = .comm (G fr cs) #[scase d.p.cO ((d.p.Kx Tryz.prog).sv i) zSent,rcase d.p.cB d.p.zB] true .select w #[]:=by
 obtain⟨bg,_,rfl,v3,v4,v12,v13,v14,v15,v16,v17,v18,v19,v20,v21,v22,v23,v24,v25,v26,v27,v28,v29,v30,v32,v33,v34,v35,v36,v39,v40,v41,v42,v43,v44,v45,v46,v47,v48,v49,v50,v51,v52,v53,v54,v55,v56,v57,v58,v59,v60,v61,v62,v63,v64,v65,rfl⟩:=hR
 rw[h.zB]
 generalize seqTl (dlB2x Tryz.f25)=c1
 generalize hL:(dlL2x Tryz.f25)=c2
 generalize (dlCx Tryz.f25) 7=c3
 simp only[dlR15x,dlB2x,dlL2x,dlCx,seqTl,Tryz.f25]
 have e:∀(g:Goroutine) (E E':Array Event),E = #[]→stepG Tryz.prog true g w=GStep.comm g #[scase d.p.cO ((d.p.Kx Tryz.prog).sv i) zSent,rcase d.p.cB zTold] true .select w E→stepG Tryz.prog true g w=GStep.comm g #[scase d.p.cO ((d.p.Kx Tryz.prog).sv i) zSent,rcase d.p.cB zTold] true .select w #[]:=fun g E E' h h'=>by rw[h',h]
 refine e _ _ #[] ?_ (stepG_comm (cases := #[scase d.p.cO ((d.p.Kx Tryz.prog).sv i) zSent,rcase d.p.cB zTold]) (blocking:=true) (shape:= .select) (w':=w) rfl rfl (by decide) (by go_simp;exact⟨rfl,rfl⟩))
 unfold listed
 have h0:∀E:Array Event,E = #[]→seen Tryz.prog 25 E = #[]:=fun E h=>by rw[h,seen_none]
 refine h0 _ ?_
 simp[go_sem]
end
end
section
open Go.Conc Go.RowKit Go.ConcR.Gen
open Go.ConcN.Gen
def DlG(d:DlP)(bg:Nat)(fr:Frame):Prop:=∃v3 v4 v11 v12 v13 v14 v15 v16 v17 v18 v19 v20 v21 v22 v23 v24 v25 v26 v27 v28 v29 v30 v31 v32 v33 v34 v35 v36 v37 v38 v39 v40 v41 v42 v43 v44 v45 v46 v47 v48 v49 v50 v51 v52 v53 v54 v56 v57 v58 v59 v60 v61 v62 v63 v64 v65:Value,fr=(base 25).at ⟨#[d.ws,.int .i64 d.hs,fnV d.p.T d.p.b6 d.p.b7 d.p.b8,v3,v4,.pointer (some ⟨d.p.bM,0,none⟩),.slice none 0 0,.pointer (some ⟨d.p.bO,0,none⟩),.pointer (some ⟨d.p.bB,0,none⟩),.pointer (some ⟨d.p.Wg,0,none⟩),.slice (some ⟨bg,0,none⟩) d.p.N d.p.N,v11,v12,v13,v14,v15,v16,v17,v18,v19,v20,v21,v22,v23,v24,v25,v26,v27,v28,v29,v30,v31,v32,v33,v34,v35,v36,v37,v38,v39,v40,v41,v42,v43,v44,v45,v46,v47,v48,v49,v50,v51,v52,v53,v54,.chan (some d.p.cB),v56,v57,v58,v59,v60,v61,v62,v63,v64,v65],[]⟩ [.code (dlL3x Tryz.f25),.inLoop (dlL3x Tryz.f25),.inBlock 5,.code ((dlCx Tryz.f25) 11)]
section
variable {d:DlP}{O:Nat→Prop}{w w1:World}{tk:Nat→Option Value}{i j:Nat}{fr:Frame}{cs:List Frame}{tM:TypeId}{go:Option Addr}{gn gc:Nat}{e:Int}{l:Bool}
set_option maxRecDepth 100000 in
set_option maxHeartbeats 8000000 in
theorem dl_rhead {bg:Nat}(h:d.Ok tM)(hB:IsBg d O bg)(hF:DlF d bg tk w)(hH:DlG d bg fr):H0 (d.p.Kx Tryz.prog) (AtRng (d.p.Kx Tryz.prog) tk) 10 O (G fr (d.c::d.cs)) w:=by
 have RL:∀ {w w1},DlF d bg tk w→Rly d.p.rd (Lvx (d.p.Kx Tryz.prog)) O w w1→DlF d bg tk w1:=dlf_rely hB.1
 obtain⟨v3,v4,v11,v12,v13,v14,v15,v16,v17,v18,v19,v20,v21,v22,v23,v24,v25,v26,v27,v28,v29,v30,v31,v32,v33,v34,v35,v36,v37,v38,v39,v40,v41,v42,v43,v44,v45,v46,v47,v48,v49,v50,v51,v52,v53,v54,v56,v57,v58,v59,v60,v61,v62,v63,v64,v65,rfl⟩:=hH
 have hS:∀(w:World),DlF d bg tk w→AtRng (d.p.Kx Tryz.prog) tk O (G ((base 25).at ⟨#[d.ws,.int .i64 d.hs,fnV d.p.T d.p.b6 d.p.b7 d.p.b8,v3,v4,.pointer (some ⟨d.p.bM,0,none⟩),.slice none 0 0,.pointer (some ⟨d.p.bO,0,none⟩),.pointer (some ⟨d.p.bB,0,none⟩),.pointer (some ⟨d.p.Wg,0,none⟩),.slice (some ⟨bg,0,none⟩) d.p.N d.p.N,v11,v12,v13,v14,v15,v16,v17,v18,v19,v20,v21,v22,v23,v24,v25,v26,v27,v28,v29,v30,v31,v32,v33,v34,v35,v36,v37,v38,v39,v40,v41,v42,v43,v44,v45,v46,v47,v48,v49,v50,v51,v52,v53,v54,.chan (some d.p.cB),v56,v57,v58,v59,v60,v61,v62,v63,v64,v65],[]⟩ [.inRegion (dlR23x Tryz.f25) [0,1],.code (seqTl (dlL3x Tryz.f25)),.inLoop (dlL3x Tryz.f25),.inBlock 5,.code ((dlCx Tryz.f25) 11)]) (d.c::d.cs)) w:=fun w hF=>⟨_,_,rfl,by
  show d.p.Rng O _ _
  rw[h.Rng]
  exact⟨bg,hB,rfl,v3,v4,v11,v12,v13,v14,v15,v16,v17,v18,v19,v20,v21,v22,v23,v24,v25,v26,v27,v28,v29,v30,v31,v32,v33,v34,v35,v36,v37,v38,v39,v40,v41,v42,v43,v44,v45,v46,v47,v48,v49,v50,v51,v52,v53,v54,v56,v57,v58,v59,v60,v61,v62,v63,v64,v65,rfl⟩,by
  show d.p.Got tk O w
  rw[h.Got]
  exact⟨bg,hB,hF.2⟩⟩
 unfold H0
 generalize AtRng (d.p.Kx Tryz.prog) tk=Stop at hS ⊢
 generalize (dlCx Tryz.f25) 11=c11 at hS ⊢
 simp only[dlR23x,dlL3x,seqTl,dlCx,Tryz.f25]at hS ⊢
 refine goes_hg (n:=10) (m:=0) ?_
 u_c stepG_seq RL hF
 u_reg RL hF
 refine Goes.stop (fun w₁ h₁=>?_)
 replace hF:=RL hF h₁
 clear h₁
 refine HG.stop (fun w₂ h₂=>?_)
 exact hS w₂ (RL hF h₂)
set_option maxRecDepth 100000 in
set_option maxHeartbeats 8000000 in
theorem dl_got(h:d.Ok tM)(hR:RngF d O fr cs)(hG:GotF d tk O w)(hlv:Lvx (d.p.Kx Tryz.prog) w)(hrd:Rdx (d.p.Kx Tryz.prog) w){Stop:(Nat→Prop)→Goroutine→World→Prop}{m:Nat}(hj:j<d.p.N)
  (hN:∀O bg w fr,IsBg d O bg→DlF d bg (fun x=>if x=j then some (.agg #[.slice go gn gc,.int .i64 e,.bool l])else tk x) w→DlG d bg fr→H0 (d.p.Kx Tryz.prog) Stop m O (G fr (d.c::d.cs)) w):H0 (d.p.Kx Tryz.prog) Stop (m+200) O (G (fr.finish (recvd true (.agg #[.int .i64 j,.slice go gn gc,.int .i64 e,.bool l]) true)) cs) w:=by
 obtain⟨bg,hB,rfl,v3,v4,v11,v12,v13,v14,v15,v16,v17,v18,v19,v20,v21,v22,v23,v24,v25,v26,v27,v28,v29,v30,v31,v32,v33,v34,v35,v36,v37,v38,v39,v40,v41,v42,v43,v44,v45,v46,v47,v48,v49,v50,v51,v52,v53,v54,v56,v57,v58,v59,v60,v61,v62,v63,v64,v65,rfl⟩:=hR
 obtain⟨bg',hB',hG⟩:=hG
 obtain rfl:=hB.eq hB'
 have RL:∀ {w w1},DlF d bg tk w→Rly d.p.rd (Lvx (d.p.Kx Tryz.prog)) O w w1→DlF d bg tk w1:=dlf_rely hB.1
 have hF:DlF d bg tk w:=⟨⟨hlv,hrd⟩,hG⟩
 have hNN:=h.N
 rw[Frame.finish_at]
 have hS:∀(v3 v4 v11 v12 v13 v14 v15 v16 v17 v18 v19 v20 v21 v22 v23 v24 v25 v26 v27 v28 v29 v30 v31 v32 v33 v34 v35 v36 v37 v38 v39 v40 v41 v42 v43 v44 v45 v46 v47 v48 v49 v50 v51 v52 v53 v54 v56 v57 v58 v59 v60 v61 v62 v63 v64 v65:Value) (O:Nat→Prop) (w:World),IsBg d O bg→DlF d bg (fun x=>if x=j then some (.agg #[.slice go gn gc,.int .i64 e,.bool l])else tk x) w→HG Tryz.prog true d.p.rd (Lvx (d.p.Kx Tryz.prog)) Stop m O (G ((base 25).at ⟨#[d.ws,.int .i64 d.hs,fnV d.p.T d.p.b6 d.p.b7 d.p.b8,v3,v4,.pointer (some ⟨d.p.bM,0,none⟩),.slice none 0 0,.pointer (some ⟨d.p.bO,0,none⟩),.pointer (some ⟨d.p.bB,0,none⟩),.pointer (some ⟨d.p.Wg,0,none⟩),.slice (some ⟨bg,0,none⟩) d.p.N d.p.N,v11,v12,v13,v14,v15,v16,v17,v18,v19,v20,v21,v22,v23,v24,v25,v26,v27,v28,v29,v30,v31,v32,v33,v34,v35,v36,v37,v38,v39,v40,v41,v42,v43,v44,v45,v46,v47,v48,v49,v50,v51,v52,v53,v54,.chan (some d.p.cB),v56,v57,v58,v59,v60,v61,v62,v63,v64,v65],[]⟩ [.code (dlL3x Tryz.f25),.inLoop (dlL3x Tryz.f25),.inBlock 5,.code ((dlCx Tryz.f25) 11)]) (d.c::d.cs)) w:=fun v3 v4 v11 v12 v13 v14 v15 v16 v17 v18 v19 v20 v21 v22 v23 v24 v25 v26 v27 v28 v29 v30 v31 v32 v33 v34 v35 v36 v37 v38 v39 v40 v41 v42 v43 v44 v45 v46 v47 v48 v49 v50 v51 v52 v53 v54 v56 v57 v58 v59 v60 v61 v62 v63 v64 v65 O w hB hF=>hN O bg w _ hB hF ⟨v3,v4,v11,v12,v13,v14,v15,v16,v17,v18,v19,v20,v21,v22,v23,v24,v25,v26,v27,v28,v29,v30,v31,v32,v33,v34,v35,v36,v37,v38,v39,v40,v41,v42,v43,v44,v45,v46,v47,v48,v49,v50,v51,v52,v53,v54,v56,v57,v58,v59,v60,v61,v62,v63,v64,v65,rfl⟩
 clear hN
 unfold H0
 generalize (dlCx Tryz.f25) 11=c11 at hS ⊢
 generalize hT:seqTl (dlL3x Tryz.f25)=T3
 generalize hL:(dlL3x Tryz.f25)=L3 at hS ⊢
 subst hT
 simp only[recvd,dlR23x,dlL3x,dlCx,seqTl,Tryz.f25]
 walk_nrm
 refine goes_hg (n:=40) (m:=m+160) ?_
 repeat(first|u_c stepG_region_end RL hF|u_c stepG_seq RL hF|u_reg RL hF|u_cnd true RL hF|u_cnd false RL hF|u_c stepG_skip RL hF|u_op RL hF|u_skip RL hF)
 u_c stepG_block RL hF
 repeat(first|u_c stepG_region_end RL hF|u_c stepG_seq RL hF|u_reg RL hF|u_cnd true RL hF|u_cnd false RL hF|u_c stepG_skip RL hF|u_op RL hF|u_skip RL hF)
 refine Goes.stop (fun w₁ h₁=>?_)
 replace hF:=RL hF h₁
 clear h₁
 refine hg_up 59 (n:=m+101) ?_
 refine hg_alloc2 RL hF (.cells #[.int .i64 0,.slice none 0 0,.int .i64 0,.bool false] 100) rfl rfl (by decide) (fun w1=>by go_simp) (fun w1=>by simp[go_sem]) (fun w1 hF1=>?_)
 obtain⟨x,hx⟩:∃x,x=w1.heap.size:=⟨_,rfl⟩
 have hd1:=h.ok.hdw hF1.1.2
 have hxr:¬d.p.rd x:=fun c=>by have:=hd1.lt x c;omega
 have hxb:x≠bg:=by have:=lt_of_some hF1.2;omega
 have hxW:x≠d.p.Wg:=by
  obtain⟨st,sm,hl⟩:=hF1.1.1
  have:d.p.Wg<w1.heap.size:=lt_of_some hl
  omega
 have hBx:IsBg d (fun y=>O y∨y=x) bg:=⟨Or.inl hB.1,fun b hb=>hb.elim (hB.2.1 b) fun e=>by have:=lt_of_some hF1.2;omega,hB.2.2⟩
 have hF2:DlF d bg tk { w1 with heap:=w1.heap.push (.cells #[.int .i64 0,.slice none 0 0,.int .i64 0,.bool false] 100)}∧TldZ x { w1 with heap:=w1.heap.push (.cells #[.int .i64 0,.slice none 0 0,.int .i64 0,.bool false] 100)}:=by
  refine⟨dlf_keep (x:=x) h (fun b hb _=>?_) ⟨hxr,hxb,hxW⟩ hF1,?_⟩
  ·show(w1.heap.push _)[b]?=_
   rw[Array.getElem?_push,if_neg (by omega)]
  ·subst hx
   show(w1.heap.push _)[w1.heap.size]?=_
   simp
 rw[←hx]
 clear hF hd1
 generalize hw2:({ w1 with heap:=w1.heap.push (.cells #[.int .i64 0,.slice none 0 0,.int .i64 0,.bool false] 100)}:World)=w2 at hF2 ⊢
 clear hw2 hF1 hx
 have RL2:∀ {w w1},(DlF d bg tk w∧TldZ x w)→Rly d.p.rd (Lvx (d.p.Kx Tryz.prog)) (fun y=>O y∨y=x) w w1→(DlF d bg tk w1∧TldZ x w1):=fun h r=>⟨dlf_rely hBx.1 h.1 r,(r.stb x (Or.inr (Or.inr rfl))).trans h.2⟩
 walk_nrm
 refine hg_stores (x:=x) (C' := #[.int .i64 j,.slice go gn gc,.int .i64 e,.bool l]) (f:=fun w=>(((w.setCell ⟨x,0,none⟩ (.int .i64 j)).setCell ⟨x,1,none⟩ (.slice go gn gc)).setCell ⟨x,2,none⟩ (.int .i64 e)).setCell ⟨x,3,none⟩ (.bool l)) (es := #[⟨.cell ⟨x,0,none⟩,true,false⟩,⟨.cell ⟨x,1,none⟩,true,false⟩,⟨.cell ⟨x,2,none⟩,true,false⟩,⟨.cell ⟨x,3,none⟩,true,false⟩]) RL2 hF2 (Or.inr rfl) (fun w h=>h.2) rfl rfl (by decide) (fun w1 h1=>?_) (fun w1 h1=>?_) (fun w1 h1=>?_) (fun E hE=>?_) (fun w1 w2 hw1 hk hz hx2=>?_)
 ·refine⟨set_of (set_of (set_of (set_of h1 0 _) 1 _) 2 _) 3 _,by rw[size_setCell,size_setCell,size_setCell,size_setCell],⟨rfl,rfl,rfl⟩,fun y hy=>by rw[heap_setCell,if_neg hy,heap_setCell,if_neg hy,heap_setCell,if_neg hy,heap_setCell,if_neg hy]⟩
 ·have c0:=cell_of (o:=0) h1 rfl
  have f0:=thaw_of h1 0
  have h2:=set_of h1 0 (.int .i64 j)
  have c1:=cell_of (o:=1) h2 rfl
  have f1:=thaw_of h2 1
  have h3:=set_of h2 1 (.slice go gn gc)
  have c2:=cell_of (o:=2) h3 rfl
  have f2:=thaw_of h3 2
  have h4:=set_of h3 2 (.int .i64 e)
  have c3:=cell_of (o:=3) h4 rfl
  have f3:=thaw_of h4 3
  go_simp
 ·have c0:=cell_of (o:=0) h1 rfl
  have f0:=thaw_of h1 0
  have h2:=set_of h1 0 (.int .i64 j)
  have c1:=cell_of (o:=1) h2 rfl
  have f1:=thaw_of h2 1
  have h3:=set_of h2 1 (.slice go gn gc)
  have c2:=cell_of (o:=2) h3 rfl
  have f2:=thaw_of h3 2
  have h4:=set_of h3 2 (.int .i64 e)
  have c3:=cell_of (o:=3) h4 rfl
  have f3:=thaw_of h4 3
  simp[go_sem, *]
  rw[events_store (hv:=rfl),events_store (hv:=rfl),c1,c3]
  simp only[f1,f3]
  rfl
 ·simp only[List.mem_toArray,List.mem_cons,List.not_mem_nil,or_false]at hE
  rcases hE with rfl|rfl|rfl|rfl<;>exact⟨_,rfl⟩
 ·replace hF:DlF d bg tk w2∧TldV x j go gn gc e l w2:=⟨dlf_keep (x:=x) h (fun b _ hb=>hk b hb) ⟨hxr,hxb,hxW⟩ hw1.1,hx2⟩
  clear hw1 hk hz hx2 hF2 RL2
  have RL3:∀ {w w1},(DlF d bg tk w∧TldV x j go gn gc e l w)→Rly d.p.rd (Lvx (d.p.Kx Tryz.prog)) (fun y=>O y∨y=x) w w1→(DlF d bg tk w1∧TldV x j go gn gc e l w1):=fun h r=>⟨dlf_rely hBx.1 h.1 r,(r.stb x (Or.inr (Or.inr rfl))).trans h.2⟩
  walk_nrm
  refine goes_hg (n:=30) (m:=m+69) ?_
  repeat(first|u_c stepG_region_end RL3 hF|u_c stepG_seq RL3 hF|u_reg RL3 hF|u_cnd true RL3 hF|u_cnd false RL3 hF|u_c stepG_skip RL3 hF|u_op RL3 hF|u_skip RL3 hF)
  refine Goes.stop (fun w₁ h₁=>?_)
  replace hF:=RL3 hF h₁
  clear h₁
  refine hg_up 10 (n:=m+59) ?_
  refine hg_load (.int .i64 j) rfl rfl (by decide) (Or.inr (Or.inr rfl)) (cell_of (o:=0) hF.2 rfl) (fun w1 h1=>by go_simp) (fun w1 h1=>by simp[go_sem, *]) ?_
  walk_nrm
  refine goes_hg (n:=9) (m:=m+49) ?_
  u_op RL3 hF
  refine Goes.stop (fun w₁ h₁=>?_)
  replace hF:=RL3 hF h₁
  clear h₁
  refine hg_value (.agg #[.slice go gn gc,.int .i64 e,.bool l]) rfl rfl (by decide) (fun w1 h1=>?_) (fun w1 h1 E hE=>?_) ?_
  ·have hx1:=(RL3 hF h1).2
   unfold TldV at hx1
   have c1:=cell_of (o:=1) hx1 rfl
   have c2:=cell_of (o:=2) hx1 rfl
   have c3:=cell_of (o:=3) hx1 rfl
   go_simp
  ·have hx1:=(RL3 hF h1).2
   unfold TldV at hx1
   have hl:=lt_of_some hx1
   have c1:=cell_of (o:=1) hx1 rfl
   have c2:=cell_of (o:=2) hx1 rfl
   have c3:=cell_of (o:=3) hx1 rfl
   have h0:∀Es:Array Event,Es = #[⟨.cell ⟨x,1,none⟩,false,false⟩,⟨.cell ⟨x,2,none⟩,false,false⟩,⟨.cell ⟨x,3,none⟩,false,false⟩]→E∈Es→EvT d.p.rd (fun y=>O y∨y=x) w1.heap.size E:=fun Es h0 hm=>by
    rw[h0]at hm
    simp only[List.mem_toArray,List.mem_cons,List.not_mem_nil,or_false]at hm
    rcases hm with rfl|rfl|rfl<;>exact⟨rfl,hl,Or.inl (Or.inr rfl)⟩
   refine h0 _ ?_ hE
   simp[go_sem, *]
  walk_nrm
  refine goes_hg (n:=20) (m:=m+28) ?_
  repeat(first|u_c stepG_region_end RL3 hF|u_c stepG_seq RL3 hF|u_reg RL3 hF|u_cnd true RL3 hF|u_cnd false RL3 hF|u_c stepG_skip RL3 hF|u_op RL3 hF|u_skip RL3 hF)
  refine Goes.stop (fun w₁ h₁=>?_)
  replace hF:=RL3 hF h₁
  clear h₁
  refine hg_stores (x:=bg) (C:=gotA d.p.N tk) (C':=gotA d.p.N fun x=>if x=j then some (.agg #[.slice go gn gc,.int .i64 e,.bool l])else tk x) (f:=fun w=>((w.setCell ⟨bg,j*3,none⟩ (.slice go gn gc)).setCell ⟨bg,j*3+1,none⟩ (.int .i64 e)).setCell ⟨bg,j*3+2,none⟩ (.bool l)) (es := #[⟨.cell ⟨bg,j*3,none⟩,true,false⟩,⟨.cell ⟨bg,j*3+1,none⟩,true,false⟩,⟨.cell ⟨bg,j*3+2,none⟩,true,false⟩]) RL3 hF (Or.inl hB.1) (fun w h=>h.1.2) rfl rfl (by decide) (fun w1 h1=>?_) (fun w1 h1=>?_) (fun w1 h1=>?_) (fun E hE=>?_) (fun w1 w2 hw1 hk hz hx2=>?_)
  ·refine⟨?_,by rw[size_setCell,size_setCell,size_setCell],⟨rfl,rfl,rfl⟩,fun y hy=>by rw[heap_setCell,if_neg hy,heap_setCell,if_neg hy,heap_setCell,if_neg hy]⟩
   have:=set_of (set_of (set_of h1 (j*3) (.slice go gn gc)) (j*3+1) (.int .i64 e)) (j*3+2) (.bool l)
   rw[Nat.mul_comm j 3,gotA_set hj]at this
   rw[Nat.mul_comm j 3]
   exact this
  ·have c0:=cell_of (o:=j*3) h1 (gotA_get (by omega))
   have f0:=thaw_of h1 (j*3)
   have h2:=set_of h1 (j*3) (.slice go gn gc)
   have c1:=cell_of (o:=j*3+1) (v:=gotC tk (j*3+1)) h2 (by rw[Array.getElem?_setIfInBounds_ne (by omega)];exact gotA_get (by omega))
   have f1:=thaw_of h2 (j*3+1)
   have h3:=set_of h2 (j*3+1) (.int .i64 e)
   have c2:=cell_of (o:=j*3+2) (v:=gotC tk (j*3+2)) h3 (by rw[Array.getElem?_setIfInBounds_ne (by omega),Array.getElem?_setIfInBounds_ne (by omega)];exact gotA_get (by omega))
   have f2:=thaw_of h3 (j*3+2)
   clear hF
   go_simp
  ·have c0:=cell_of (o:=j*3) h1 (gotA_get (by omega))
   have f0:=thaw_of h1 (j*3)
   have h2:=set_of h1 (j*3) (.slice go gn gc)
   have c1:=cell_of (o:=j*3+1) (v:=gotC tk (j*3+1)) h2 (by rw[Array.getElem?_setIfInBounds_ne (by omega)];exact gotA_get (by omega))
   have f1:=thaw_of h2 (j*3+1)
   have h3:=set_of h2 (j*3+1) (.int .i64 e)
   have c2:=cell_of (o:=j*3+2) (v:=gotC tk (j*3+2)) h3 (by rw[Array.getElem?_setIfInBounds_ne (by omega),Array.getElem?_setIfInBounds_ne (by omega)];exact gotA_get (by omega))
   have f2:=thaw_of h3 (j*3+2)
   clear hF
   simp[go_sem, *]
   rw[events_store (hv:=rfl),events_store (hv:=rfl),c0,c2]
   simp only[f0,f2]
   rfl
  ·simp only[List.mem_toArray,List.mem_cons,List.not_mem_nil,or_false]at hE
   rcases hE with rfl|rfl|rfl<;>exact⟨_,rfl⟩
  ·have hF4:DlF d bg (fun x=>if x=j then some (.agg #[.slice go gn gc,.int .i64 e,.bool l])else tk x) w2:=by
    obtain⟨⟨⟨st,sm,hl⟩,hr⟩,hg⟩:=hw1.1
    refine⟨⟨⟨st,sm,(hk _ fun c=>?_).trans hl⟩,fun b hb=>(hk b fun c=>?_).trans (hr b hb)⟩,hx2⟩
    ·exact hB.2.2.2.1 c.symm
    ·exact hB.2.2.1 (c▸hb)
   clear hw1 hk hz hx2 hF RL3
   have RL4:∀ {w w1},DlF d bg (fun x=>if x=j then some (.agg #[.slice go gn gc,.int .i64 e,.bool l])else tk x) w→Rly d.p.rd (Lvx (d.p.Kx Tryz.prog)) (fun y=>O y∨y=x) w w1→DlF d bg (fun x=>if x=j then some (.agg #[.slice go gn gc,.int .i64 e,.bool l])else tk x) w1:=dlf_rely hBx.1
   walk_nrm
   refine goes_hg (n:=27) (m:=m) ?_
   u_c stepG_region_end RL4 hF4
   u_c stepG_inBlock RL4 hF4
   u_c stepG_inLoop RL4 hF4
   refine Goes.stop (fun w₁ h₁=>?_)
   exact hS _ _ _ _ _ _ _ _ _ _ _ _ _ _ _ _ _ _ _ _ _ _ _ _ _ _ _ _ _ _ _ _ _ _ _ _ _ _ _ _ _ _ _ _ _ _ _ _ _ _ _ _ _ _ _ _ _ w₁ hBx (RL4 hF4 h₁)
end
end
section
open Go.Conc Go.RowKit Go.ConcR.Gen
open Go.ConcR (KK WgAt stA smA)
open Go.ConcN.Gen
def dlR20x(f:Func):Array Oper:=match dlCx f 8 with | .seq (.region _ ops _) _=>ops|_ => #[]
def WtF(d:DlP)(bg:Nat)(fr:Frame):Prop:=∃v3 v4 v11 v12 v13 v14 v15 v16 v17 v18 v19 v20 v21 v22 v23 v24 v25 v26 v27 v28 v29 v30 v31 v32 v33 v34 v35 v36 v37 v38 v39 v40 v41 v42 v43 v44 v45 v46 v47 v48 v49 v50 v51 v52 v53 v54 v55 v56 v57 v58 v59 v60 v61 v62 v63 v64 v65:Value,fr=((base 25).at ⟨#[d.ws,.int .i64 d.hs,fnV d.p.T d.p.b6 d.p.b7 d.p.b8,v3,v4,.pointer (some ⟨d.p.bM,0,none⟩),.slice none 0 0,.pointer (some ⟨d.p.bO,0,none⟩),.pointer (some ⟨d.p.bB,0,none⟩),.pointer (some ⟨d.p.Wg,0,none⟩),.slice (some ⟨bg,0,none⟩) d.p.N d.p.N,v11,v12,v13,v14,v15,v16,v17,v18,v19,v20,v21,v22,v23,v24,v25,v26,v27,v28,v29,v30,v31,v32,v33,v34,v35,v36,v37,v38,v39,v40,v41,v42,v43,v44,v45,v46,v47,v48,v49,v50,v51,v52,v53,v54,v55,v56,v57,v58,v59,v60,v61,v62,v63,v64,v65],[]⟩ [.inRegion (dlR20x Tryz.f25) [0],.code ((dlCx Tryz.f25) 9)])
structure DlP.Okk(d:DlP)(tM:TypeId):Prop where
 ok:d.Ok tM
 rO:¬d.p.rd d.p.cO
 rB:¬d.p.rd d.p.cB
 rW:¬d.p.rd d.p.Wg
 wO:d.p.cO≠d.p.Wg
 wB:d.p.cB≠d.p.Wg
section
variable {d:DlP}{O:Nat→Prop}{w w1:World}{tk:Nat→Option Value}{i j bg:Nat}{fr:Frame}{cs:List Frame}{tM:TypeId}
theorem dlf_wg(h:d.Okk tM)(hB:IsBg d O bg)(hk:∀b,b≠d.p.Wg→w1.heap[b]?=w.heap[b]?)(hl:Go.ConcN.WgLive wgLink.tWg d.p.Wg w1)(hF:DlF d bg tk w):DlF d bg tk w1:=
 ⟨⟨hl,fun b hb=>(hk b fun e=>h.rW (e▸hb)).trans (hF.1.2 b hb)⟩,(hk bg hB.2.2.2.1).trans hF.2⟩
theorem dlf_st(h:d.Okk tM)(hB:IsBg d O bg)(v:Int)(hF:DlF d bg tk w):DlF d bg tk (w.setCell (stA d.p.Wg) (.int .u64 v)):=by
 obtain⟨st,sm,hl⟩:=hF.1.1
 exact dlf_wg h hB (fun b hb=>by rw[stA,heap_setCell,if_neg hb]) ⟨v,sm,hl.setSt v⟩ hF
theorem dlf_sm(h:d.Okk tM)(hB:IsBg d O bg)(v:Int)(hF:DlF d bg tk w):DlF d bg tk (w.setCell (smA d.p.Wg) (.int .u32 v)):=by
 obtain⟨st,sm,hl⟩:=hF.1.1
 exact dlf_wg h hB (fun b hb=>by rw[smA,heap_setCell,if_neg hb]) ⟨st,v,hl.setSm v⟩ hF
theorem chan_cells {c b:Nat}{cap s r:Nat}{buf x:Array Value}{cl tm:Bool}{t:TypeId}(hc:w.heap[c]?=some (.chan cap buf cl s r tm))(hb:w.heap[b]?=some (.cells x t)):c≠b:=by
 rintro rfl
 rw[hc]at hb
 injection hb with hb
 cases hb
theorem dlf_chan(h:d.Okk tM){c cap cap' s r s' r':Nat}{buf buf':Array Value}{cl cl' tm tm':Bool}(hc:w.heap[c]?=some (.chan cap buf cl s r tm))(hr:¬d.p.rd c)(hw:c≠d.p.Wg)(hF:DlF d bg tk w):DlF d bg tk (w.setChan c cap' buf' cl' s' r' tm'):=
 dlf_keep h.ok (x:=c) (fun _ _ hb=>Go.Conc.heap_setChan_ne _ _ _ _ _ _ _ (Ne.symm hb)) ⟨hr,chan_cells hc hF.2,hw⟩ hF
set_option maxRecDepth 100000 in
set_option maxHeartbeats 8000000 in
theorem dl_shut(h:d.Okk tM)(hB:IsBg d O bg)(hF:DlF d bg tk w)(v3:Value)(v4:Value)(v11:Value)(v12:Value)(v13:Value)(v14:Value)(v15:Value)(v16:Value)(v17:Value)(v18:Value)(v19:Value)(v20:Value)(v21:Value)(v22:Value)(v23:Value)(v24:Value)(v25:Value)(v26:Value)(v27:Value)(v28:Value)(v29:Value)(v30:Value)(v31:Value)(v32:Value)(v33:Value)(v34:Value)(v35:Value)(v36:Value)(v37:Value)(v38:Value)(v39:Value)(v40:Value)(v41:Value)(v42:Value)(v43:Value)(v44:Value)(v45:Value)(v46:Value)(v47:Value)(v48:Value)(v49:Value)(v50:Value)(v51:Value)(v52:Value)(v53:Value)(v54:Value)(v55:Value)(v56:Value)(v57:Value)(v58:Value)(v59:Value)(v60:Value)(v61:Value)(v62:Value)(v63:Value)(v64:Value)(v65:Value):H0 (d.p.Kx Tryz.prog) (AtCl2 (d.p.Kx Tryz.prog) tk) 60 O (G ((base 25).at ⟨#[d.ws,.int .i64 d.hs,fnV d.p.T d.p.b6 d.p.b7 d.p.b8,v3,v4,.pointer (some ⟨d.p.bM,0,none⟩),.slice none 0 0,.pointer (some ⟨d.p.bO,0,none⟩),.pointer (some ⟨d.p.bB,0,none⟩),.pointer (some ⟨d.p.Wg,0,none⟩),.slice (some ⟨bg,0,none⟩) d.p.N d.p.N,v11,v12,v13,v14,v15,v16,v17,v18,v19,v20,v21,v22,v23,v24,v25,v26,v27,v28,v29,v30,v31,v32,v33,v34,v35,v36,v37,v38,v39,v40,v41,v42,v43,v44,v45,v46,v47,v48,v49,v50,v51,v52,v53,v54,v55,v56,v57,v58,v59,v60,v61,v62,v63,v64,v65],[]⟩ [.inRegion (dlR20x Tryz.f25) [],.code ((dlCx Tryz.f25) 9)]) (d.c::d.cs)) w:=by
 have RL:∀ {w w1},DlF d bg tk w→Rly d.p.rd (Lvx (d.p.Kx Tryz.prog)) O w w1→DlF d bg tk w1:=dlf_rely hB.1
 have hS:∀(v3 v4 v11 v12 v13 v14 v15 v16 v17 v18 v19 v20 v21 v22 v23 v24 v25 v26 v27 v28 v29 v30 v31 v32 v33 v34 v35 v36 v37 v38 v39 v40 v41 v42 v43 v44 v45 v46 v47 v48 v49 v50 v51 v52 v53 v54 v56 v57 v58 v59 v60 v61 v62 v63 v64 v65:Value) (w:World),DlF d bg tk w→H0 (d.p.Kx Tryz.prog) (AtRng (d.p.Kx Tryz.prog) tk) 10 O (G ((base 25).at ⟨#[d.ws,.int .i64 d.hs,fnV d.p.T d.p.b6 d.p.b7 d.p.b8,v3,v4,.pointer (some ⟨d.p.bM,0,none⟩),.slice none 0 0,.pointer (some ⟨d.p.bO,0,none⟩),.pointer (some ⟨d.p.bB,0,none⟩),.pointer (some ⟨d.p.Wg,0,none⟩),.slice (some ⟨bg,0,none⟩) d.p.N d.p.N,v11,v12,v13,v14,v15,v16,v17,v18,v19,v20,v21,v22,v23,v24,v25,v26,v27,v28,v29,v30,v31,v32,v33,v34,v35,v36,v37,v38,v39,v40,v41,v42,v43,v44,v45,v46,v47,v48,v49,v50,v51,v52,v53,v54,.chan (some d.p.cB),v56,v57,v58,v59,v60,v61,v62,v63,v64,v65],[]⟩ [.code (dlL3x Tryz.f25),.inLoop (dlL3x Tryz.f25),.inBlock 5,.code ((dlCx Tryz.f25) 11)]) (d.c::d.cs)) w:=fun v3 v4 v11 v12 v13 v14 v15 v16 v17 v18 v19 v20 v21 v22 v23 v24 v25 v26 v27 v28 v29 v30 v31 v32 v33 v34 v35 v36 v37 v38 v39 v40 v41 v42 v43 v44 v45 v46 v47 v48 v49 v50 v51 v52 v53 v54 v56 v57 v58 v59 v60 v61 v62 v63 v64 v65 w hF=>dl_rhead h.ok hB hF ⟨v3,v4,v11,v12,v13,v14,v15,v16,v17,v18,v19,v20,v21,v22,v23,v24,v25,v26,v27,v28,v29,v30,v31,v32,v33,v34,v35,v36,v37,v38,v39,v40,v41,v42,v43,v44,v45,v46,v47,v48,v49,v50,v51,v52,v53,v54,v56,v57,v58,v59,v60,v61,v62,v63,v64,v65,rfl⟩
 unfold H0 at *
 generalize hN:AtRng (d.p.Kx Tryz.prog) tk=Nx at hS
 simp only[dlR20x,dlL3x,dlCx,seqTl,Tryz.f25]at hS ⊢
 refine goes_hg (n:=20) (m:=40) ?_
 repeat(first|u_c stepG_region_end RL hF|u_c stepG_seq RL hF|u_reg RL hF|u_cnd true RL hF|u_cnd false RL hF|u_c stepG_skip RL hF|u_op RL hF|u_skip RL hF)
 refine Goes.stop (fun w₁ h₁=>?_)
 replace hF:=RL hF h₁
 clear h₁
 have hd:=h.ok.ok.hdw hF.1.2
 refine hg_load (.chan (some d.p.cB)) rfl rfl (by decide) (Or.inl hd.rB) hd.cB (fun w1 h1=>by go_simp) (fun w1 h1=>by simp[go_sem, *]) ?_
 walk_nrm
 refine HG.stop (fun w₂ h₂=>?_)
 replace hF:=RL hF h₂
 clear h₂ hd
 refine⟨rfl,fun cap buf s r tm hc=>⟨_,stepG_close rfl rfl (by decide) rfl (by simp[Act.eval]) hc (by kernel_rfl),70,?_⟩⟩
 replace hF:=dlf_chan (cap':=cap) (buf':=buf) (cl':=true) (s':=s) (r':=r) (tm':=tm) h hc h.rB h.wB hF
 generalize w₂.setChan d.p.cB cap buf true s r tm=w3 at hF ⊢
 clear hc
 unfold H0
 rw[hN]
 walk_nrm
 refine goes_hg (n:=20) (m:=50) ?_
 repeat(first|u_c stepG_region_end RL hF|u_c stepG_seq RL hF|u_reg RL hF|u_cnd true RL hF|u_cnd false RL hF|u_c stepG_skip RL hF|u_op RL hF|u_skip RL hF)
 refine Goes.stop (fun w₁ h₁=>?_)
 replace hF:=RL hF h₁
 clear h₁
 have hd:=h.ok.ok.hdw hF.1.2
 refine hg_load (.chan (some d.p.cB)) rfl rfl (by decide) (Or.inl hd.rB) hd.cB (fun w1 h1=>by go_simp) (fun w1 h1=>by simp[go_sem, *]) ?_
 walk_nrm
 refine hg_up 9 (n:=40) ?_
 refine goes_hg (n:=30) (m:=10) ?_
 repeat(first|u_c stepG_region_end RL hF|u_c stepG_seq RL hF|u_reg RL hF|u_cnd true RL hF|u_cnd false RL hF|u_c stepG_skip RL hF|u_op RL hF|u_skip RL hF)
 u_c stepG_block RL hF
 u_c stepG_loop RL hF
 refine Goes.stop (fun w₁ h₁=>?_)
 exact hS _ _ _ _ _ _ _ _ _ _ _ _ _ _ _ _ _ _ _ _ _ _ _ _ _ _ _ _ _ _ _ _ _ _ _ _ _ _ _ _ _ _ _ _ _ _ _ _ _ _ _ _ _ _ _ _ w₁ (RL hF h₁)
end
end
section
open Go.Conc Go.RowKit Go.ConcR.Gen
open Go.ConcR (KK WgAt stA smA)
open Go.ConcN.Gen
def AncF(d:DlP)(tk:Nat→Option Value)(O:Nat→Prop)(g:Goroutine)(w:World):Prop:=∃bg fr,IsBg d O bg∧DlF d bg tk w∧WtF d bg fr∧WtA d.p.Wg fr (d.c::d.cs) g
section
variable {d:DlP}{O:Nat→Prop}{w w1:World}{tk:Nat→Option Value}{i j bg:Nat}{fr:Frame}{cs:List Frame}{tM:TypeId}{g:Goroutine}
set_option maxRecDepth 100000 in
set_option maxHeartbeats 8000000 in
theorem anc_ok(h:d.Okk tM)(ha:d.p.Anc=AncF d)(hA:d.p.Anc tk O g w):g.status = .running∧∃n,H0 (d.p.Kx Tryz.prog) (AtW1 (d.p.Kx Tryz.prog) tk) n O g w:=by
 have hA0:=hA
 rw[ha]at hA
 obtain⟨bg,fr,hB,hF,hfr,hW⟩:=hA
 refine⟨?_,300,?_⟩
 ·obtain⟨T,rfl,_⟩:=hW
  rfl
 ·obtain⟨v3,v4,v11,v12,v13,v14,v15,v16,v17,v18,v19,v20,v21,v22,v23,v24,v25,v26,v27,v28,v29,v30,v31,v32,v33,v34,v35,v36,v37,v38,v39,v40,v41,v42,v43,v44,v45,v46,v47,v48,v49,v50,v51,v52,v53,v54,v55,v56,v57,v58,v59,v60,v61,v62,v63,v64,v65,rfl⟩:=hfr
  refine gwait_round (F:=DlF d bg tk) (m:=60) (dlf_rely hB.1) (fun w v hF=>dlf_st h hB v hF) (fun w v hF=>dlf_sm h hB v hF) (fun w hF=>hF.1.1) (fun g w hF hg=>?_) (fun w hF=>?_) hF hW
  ·rw[ha]
   exact⟨bg,_,hB,hF,⟨v3,v4,v11,v12,v13,v14,v15,v16,v17,v18,v19,v20,v21,v22,v23,v24,v25,v26,v27,v28,v29,v30,v31,v32,v33,v34,v35,v36,v37,v38,v39,v40,v41,v42,v43,v44,v45,v46,v47,v48,v49,v50,v51,v52,v53,v54,v55,v56,v57,v58,v59,v60,v61,v62,v63,v64,v65,rfl⟩,hg⟩
  ·have e:((dlR20x Tryz.f25)[0]?).bind (·.dst)=some 53:=by kernel_rfl
   rw[e]
   exact dl_shut h hB hF _ _ _ _ _ _ _ _ _ _ _ _ _ _ _ _ _ _ _ _ _ _ _ _ _ _ _ _ _ _ _ _ _ _ _ _ _ _ _ _ _ _ _ _ _ _ _ _ _ _ _ _ _ _ _ _ _
set_option maxRecDepth 100000 in
set_option maxHeartbeats 8000000 in
theorem dl_wait(ha:d.p.Anc=AncF d)(hB:IsBg d O bg)(hF:DlF d bg tk w)(hfr:WtF d bg fr):H0 (d.p.Kx Tryz.prog) (AtKd (d.p.Kx Tryz.prog) tk) 300 O (G (Frame.enter Tryz.prog 53 #[.pointer (some ⟨d.p.Wg,0,none⟩)] .normal) (fr::d.c::d.cs)) w:=by
 obtain⟨v3,v4,v11,v12,v13,v14,v15,v16,v17,v18,v19,v20,v21,v22,v23,v24,v25,v26,v27,v28,v29,v30,v31,v32,v33,v34,v35,v36,v37,v38,v39,v40,v41,v42,v43,v44,v45,v46,v47,v48,v49,v50,v51,v52,v53,v54,v55,v56,v57,v58,v59,v60,v61,v62,v63,v64,v65,rfl⟩:=hfr
 refine gwait_start (F:=DlF d bg tk) (dlf_rely hB.1) hF (fun g w hF hg=>?_)
 rw[ha]
 exact⟨bg,_,hB,hF,⟨v3,v4,v11,v12,v13,v14,v15,v16,v17,v18,v19,v20,v21,v22,v23,v24,v25,v26,v27,v28,v29,v30,v31,v32,v33,v34,v35,v36,v37,v38,v39,v40,v41,v42,v43,v44,v45,v46,v47,v48,v49,v50,v51,v52,v53,v54,v55,v56,v57,v58,v59,v60,v61,v62,v63,v64,v65,rfl⟩,hg⟩
set_option maxRecDepth 100000 in
set_option maxHeartbeats 8000000 in
theorem dl_none(h:d.Okk tM)(ha:d.p.Anc=AncF d)(hB:IsBg d O bg)(hF:DlF d bg tk w)(hH:DlH d bg d.p.N fr):H0 (d.p.Kx Tryz.prog) (AtCls (d.p.Kx Tryz.prog) tk) 60 O (G fr (d.c::d.cs)) w:=by
 have RL:∀ {w w1},DlF d bg tk w→Rly d.p.rd (Lvx (d.p.Kx Tryz.prog)) O w w1→DlF d bg tk w1:=dlf_rely hB.1
 obtain⟨v3,v4,v12,v13,v14,v15,v16,v17,v18,v19,v20,v21,v22,v23,v24,v25,v26,v27,v28,v29,v30,v31,v32,v33,v34,v35,v36,v37,v38,v39,v40,v41,v42,v43,v44,v45,v46,v47,v48,v49,v50,v51,v52,v53,v54,v55,v56,v57,v58,v59,v60,v61,v62,v63,v64,v65,rfl⟩:=hH
 have hN:=h.ok.N
 have q1:decide ((d.p.N:Int)<(d.p.N:Int))=false:=decide_eq_false (by omega)
 have hS:∀(v3 v4 v11 v12 v13 v14 v15 v16 v17 v18 v19 v20 v21 v22 v23 v24 v25 v26 v27 v28 v29 v30 v31 v32 v33 v34 v35 v36 v37 v38 v39 v40 v41 v42 v43 v44 v45 v46 v47 v48 v49 v50 v51 v52 v53 v54 v55 v56 v57 v58 v59 v60 v61 v62 v63 v64 v65:Value) (w:World),DlF d bg tk w→H0 (d.p.Kx Tryz.prog) (AtKd (d.p.Kx Tryz.prog) tk) 300 O (G (Frame.enter Tryz.prog 53 #[.pointer (some ⟨d.p.Wg,0,none⟩)] .normal) (((base 25).at ⟨#[d.ws,.int .i64 d.hs,fnV d.p.T d.p.b6 d.p.b7 d.p.b8,v3,v4,.pointer (some ⟨d.p.bM,0,none⟩),.slice none 0 0,.pointer (some ⟨d.p.bO,0,none⟩),.pointer (some ⟨d.p.bB,0,none⟩),.pointer (some ⟨d.p.Wg,0,none⟩),.slice (some ⟨bg,0,none⟩) d.p.N d.p.N,v11,v12,v13,v14,v15,v16,v17,v18,v19,v20,v21,v22,v23,v24,v25,v26,v27,v28,v29,v30,v31,v32,v33,v34,v35,v36,v37,v38,v39,v40,v41,v42,v43,v44,v45,v46,v47,v48,v49,v50,v51,v52,v53,v54,v55,v56,v57,v58,v59,v60,v61,v62,v63,v64,v65],[]⟩ [.inRegion (dlR20x Tryz.f25) [0],.code ((dlCx Tryz.f25) 9)])::d.c::d.cs)) w:=fun v3 v4 v11 v12 v13 v14 v15 v16 v17 v18 v19 v20 v21 v22 v23 v24 v25 v26 v27 v28 v29 v30 v31 v32 v33 v34 v35 v36 v37 v38 v39 v40 v41 v42 v43 v44 v45 v46 v47 v48 v49 v50 v51 v52 v53 v54 v55 v56 v57 v58 v59 v60 v61 v62 v63 v64 v65 w hF=>dl_wait ha hB hF ⟨v3,v4,v11,v12,v13,v14,v15,v16,v17,v18,v19,v20,v21,v22,v23,v24,v25,v26,v27,v28,v29,v30,v31,v32,v33,v34,v35,v36,v37,v38,v39,v40,v41,v42,v43,v44,v45,v46,v47,v48,v49,v50,v51,v52,v53,v54,v55,v56,v57,v58,v59,v60,v61,v62,v63,v64,v65,rfl⟩
 unfold H0 at *
 generalize hN:AtKd (d.p.Kx Tryz.prog) tk=Nx at hS
 simp only[dlL2x,dlR20x,dlCx,seqTl,Tryz.f25]at hS ⊢
 simp only[DlP.ws]at hS ⊢
 refine goes_hg (n:=40) (m:=20) ?_
 repeat(first|u_c stepG_region_end RL hF|u_c stepG_seq RL hF|u_reg RL hF|u_cnd true RL hF|u_cnd false RL hF|u_c stepG_skip RL hF|u_op RL hF|u_skip RL hF)
 u_exit RL hF
 repeat(first|u_c stepG_region_end RL hF|u_c stepG_seq RL hF|u_reg RL hF|u_cnd true RL hF|u_cnd false RL hF|u_c stepG_skip RL hF|u_op RL hF|u_skip RL hF)
 refine Goes.stop (fun w₁ h₁=>?_)
 replace hF:=RL hF h₁
 clear h₁
 have hd:=h.ok.ok.hdw hF.1.2
 refine hg_load (.chan (some d.p.cO)) rfl rfl (by decide) (Or.inl hd.rO) hd.cO (fun w1 h1=>by go_simp) (fun w1 h1=>by simp[go_sem, *]) ?_
 walk_nrm
 refine HG.stop (fun w₂ h₂=>?_)
 replace hF:=RL hF h₂
 clear h₂ hd
 refine⟨rfl,by kernel_rfl,fun s r tm hc=>⟨_,stepG_close rfl rfl (by decide) rfl (by simp[Act.eval]) hc (by kernel_rfl),rfl,330,?_⟩⟩
 replace hF:=dlf_chan (cap':=0) (buf' := #[]) (cl':=true) (s':=s) (r':=r) (tm':=tm) h hc h.rO h.wO hF
 generalize w₂.setChan d.p.cO 0 #[] true s r tm=w3 at hF ⊢
 clear hc
 unfold H0
 rw[hN]
 walk_nrm
 refine goes_hg (n:=29) (m:=301) ?_
 repeat(first|u_c stepG_region_end RL hF|u_c stepG_seq RL hF|u_reg RL hF|u_cnd true RL hF|u_cnd false RL hF|u_c stepG_skip RL hF|u_op RL hF|u_skip RL hF)
 refine Goes.stop (fun w₁ h₁=>?_)
 replace hF:=RL hF h₁
 clear h₁
 refine hg_call (n:=300) (f:=53) (vs := #[.pointer (some ⟨d.p.Wg,0,none⟩)]) rfl rfl (by decide) rfl Tryz.func53 (by kernel_rfl) (by kernel_rfl) (by go_simp) ?_
 exact hS _ _ _ _ _ _ _ _ _ _ _ _ _ _ _ _ _ _ _ _ _ _ _ _ _ _ _ _ _ _ _ _ _ _ _ _ _ _ _ _ _ _ _ _ _ _ _ _ _ _ _ _ _ _ _ _ _ _ hF
end
end
section
open Go.Conc Go.RowKit Go.ConcR.Gen
open Go.ConcR (KK WgAt stA smA)
open Go.ConcN.Gen
def DlS(d:DlP)(j:Nat)(fr:Frame):Prop:=∃v3 v4 v10 v11 v12 v13 v14 v15 v16 v17 v20 v21 v22 v23 v24 v25 v26 v27 v28 v29 v30 v31 v32 v33 v34 v35 v36 v37 v38 v39 v40 v41 v42 v43 v44 v45 v46 v47 v48 v49 v50 v51 v52 v53 v54 v55 v56 v57 v58 v59 v60 v61 v62 v63 v64 v65:Value,fr=((base 25).at ⟨#[d.ws,.int .i64 d.hs,fnV d.p.T d.p.b6 d.p.b7 d.p.b8,v3,v4,.pointer (some ⟨d.p.bM,0,none⟩),.slice none 0 0,.pointer (some ⟨d.p.bO,0,none⟩),.pointer (some ⟨d.p.bB,0,none⟩),.pointer (some ⟨d.p.Wg,0,none⟩),v10,v11,v12,v13,v14,v15,v16,v17,.int .i64 d.p.H,.int .i64 j,v20,v21,v22,v23,v24,v25,v26,v27,v28,v29,v30,v31,v32,v33,v34,v35,v36,v37,v38,v39,v40,v41,v42,v43,v44,v45,v46,v47,v48,v49,v50,v51,v52,v53,v54,v55,v56,v57,v58,v59,v60,v61,v62,v63,v64,v65],[]⟩ [.code (dlL1x Tryz.f25),.inLoop (dlL1x Tryz.f25),.inBlock 0,.code ((dlCx Tryz.f25) 5)])
def SpF0(d:DlP)(w:World):Prop:=Lvx (d.p.Kx Tryz.prog) w∧Rdx (d.p.Kx Tryz.prog) w
section
variable {P:Program}{main:Bool}{rd:Nat→Prop}{Lv:World→Prop}{Stop:(Nat→Prop)→Goroutine→World→Prop}{O:Nat→Prop}{n:Nat}{w:World}{b:Frame}{a:Act}{ops:Array Oper}{i:Nat}{rest:List Nat}{k:List Item}{cs:List Frame}{o:Oper}{F:World→Prop}
theorem hg_newv(RL:∀ {w w1:World}, F w→Rly rd Lv O w w1→F w1)(hF:F w)(X:Obj)(val:Nat→Value)(ho:ops[i]?=some o)(hw:Region.wanted o (yielded ops a.tmps)=true)(hk:b.kind ≠ .early)(hr:∀w1:World, (execOp a.eval o).run P w1 = .ok (.value (val w1.heap.size)) { w1 with heap:=w1.heap.push X })(he:∀w1:World, (execOp a.eval o).events P w1 #[] = #[])
  (hn:∀w1,F w1→HG P main rd Lv Stop n (fun x=>O x∨x=w1.heap.size) (G (b.at (a.put o.dst (val w1.heap.size)) (.inRegion ops rest::k)) cs) { w1 with heap:=w1.heap.push X }):HG P main rd Lv Stop (n+1) O (G (b.at a (.inRegion ops (i::rest)::k)) cs) w:=by
 refine HG.step rfl fun w1 h1=>?_
 rw[stepG_value ho hw hk (hr w1)]
 have eg:Grw O w1 { w1 with heap:=w1.heap.push X }=fun x=>O x∨x=w1.heap.size:=by
  funext x
  have es:({ w1 with heap:=w1.heap.push X }:World).heap.size=w1.heap.size+1:=Array.size_push ..
  refine propext ⟨fun h=>?_,fun h=>?_⟩
  ·rcases h with h|⟨c1,c2⟩
   ·exact Or.inl h
   ·exact Or.inr (by omega)
  ·rcases h with h|h
   ·exact Or.inl h
   ·exact Or.inr ⟨by omega,by omega⟩
 refine⟨⟨rfl,rfl,rfl,by show w1.heap.size≤(w1.heap.push X).size;rw[Array.size_push];omega,fun x hx _=>?_,fun e hm=>?_⟩,by rw[eg];exact hn w1 (RL hF h1)⟩
 ·show(w1.heap.push X)[x]?=_
  rw[Array.getElem?_push,if_neg (by omega)]
 ·have:=mem_listed hm
  rw[he w1]at this
  simp at this
end
theorem made_got(n:Nat):madeCells #[.slice none 0 0,.int .i64 0,.bool false] (n*3)=gotA n tk0:=by
 refine Array.ext_getElem? fun k=>?_
 by_cases hk:k<3*n
 ·rw[gotA_get hk]
  have h3:k % 3=0∨k % 3=1∨k % 3=2:=by omega
  have e:(madeCells #[.slice none 0 0,.int .i64 0,.bool false] (n*3))[k]?=some ((#[.slice none 0 0,.int .i64 0,.bool false]:Array Value)[k % 3]!):=by
   unfold madeCells
   rw[Array.getElem?_map,Array.getElem?_range,if_pos (by omega)]
   rfl
  rw[e]
  unfold gotC tk0
  rcases h3 with h3|h3|h3<;>rw[h3]<;>rfl
 ·rw[Array.getElem?_eq_none (by rw[size_madeCells];omega),Array.getElem?_eq_none (by rw[gotA_size];omega)]
theorem Tryz.infoGot:(Tryz.prog.info? 39).map (fun i=>(i.zero,i.size,i.bytes))=some (some (.agg #[.slice none 0 0,.int .i64 0,.bool false]),3,40):=by kernel_rfl
theorem got_make(w:World)(n:Nat)(hn:n<1000000):(Instr.makeSlice 28 (.int .i64 n) (.int .i64 n)).run Tryz.prog w = .ok (.slice (some ⟨w.heap.size,0,none⟩) n n) { w with heap:=w.heap.push (.cells (gotA n tk0) 39)}:=by
 obtain⟨i0,hi,hz0,hz1,hz2⟩:=info_parts Tryz.infoGot
 have hm:=run_makeSlice (P:=Tryz.prog) w 28 39 i0 _ Tryz.underlying28 hi hz0 .i64 .i64 (n:Int) (n:Int) (by omega) (by omega) (by rw[hz1,Int.toNat_natCast];omega) (by rw[hz2];omega) (by omega)
 rw[hz1,Int.toNat_natCast]at hm
 exact hm.trans (by rw[←made_got];rfl)
theorem got_make_ev(w:World)(n:Nat)(hn:n<1000000):(Instr.makeSlice 28 (.int .i64 n) (.int .i64 n)).events Tryz.prog w #[] = #[]:=by
 obtain⟨i0,hi,hz0,hz1,hz2⟩:=info_parts Tryz.infoGot
 exact events_make (P:=Tryz.prog) w 28 39 i0 _ Tryz.underlying28 hi hz0 .i64 .i64 (n:Int) (n:Int) (by omega) (by omega) (by rw[hz2];omega) (by omega) (by rw[hz2,Int.toNat_natCast];omega) #[]
section
variable {d:DlP}{O:Nat→Prop}{w w1:World}{i j bg:Nat}{fr:Frame}{tM:TypeId}
theorem spf_set(h:d.Okk tM)(v:Int)(hF:SpF0 d w):SpF0 d (w.setCell (stA d.p.Wg) (.int .u64 v)):=by
 obtain⟨⟨st,sm,hl⟩,hr⟩:=hF
 exact⟨⟨v,sm,hl.setSt v⟩,fun b hb=>by rw[stA,heap_setCell,if_neg (fun e=>h.rW ((show b=d.p.Wg from e)▸hb))];exact hr b hb⟩
theorem dl_aft(h:d.Okk tM)(ha:d.p.Anc=AncF d)(hB:IsBg d O bg)(hF:DlF d bg tk0 w)(hH:DlH d bg 0 fr):H0 (d.p.Kx Tryz.prog) (AftZ (d.p.Kx Tryz.prog) 0 tk0) 200 O (G fr (d.c::d.cs)) w:=by
 by_cases hN:0<d.p.N
 ·exact(dl_more h.ok hB hN hF hH).mono fun O g w hx=>Or.inl ⟨hN,hx⟩
 ·have e:(0:Nat)=d.p.N:=by omega
  exact hg_up (n:=60) 140 ((dl_none h ha hB hF (by rw[←e];exact hH)).mono fun O g w hx=>Or.inr ⟨e,hx⟩)
set_option maxRecDepth 100000 in
set_option maxHeartbeats 8000000 in
theorem dl_spn0(h:d.Okk tM)(ha:d.p.Anc=AncF d)(hF:SpF0 d w)(hH:DlS d d.p.H fr):H0 (d.p.Kx Tryz.prog) (SpnZ (d.p.Kx Tryz.prog) 0) 300 noB (G fr (d.c::d.cs)) w:=by
 have RL:∀ {w w1},SpF0 d w→Rly d.p.rd (Lvx (d.p.Kx Tryz.prog)) noB w w1→SpF0 d w1:=fun h r=>wgl_rely r h
 obtain⟨v3,v4,v10,v11,v12,v13,v14,v15,v16,v17,v20,v21,v22,v23,v24,v25,v26,v27,v28,v29,v30,v31,v32,v33,v34,v35,v36,v37,v38,v39,v40,v41,v42,v43,v44,v45,v46,v47,v48,v49,v50,v51,v52,v53,v54,v55,v56,v57,v58,v59,v60,v61,v62,v63,v64,v65,rfl⟩:=hH
 have hN:=h.ok.N
 have q1:decide ((d.p.H:Int)<(d.p.H:Int))=false:=decide_eq_false (by omega)
 have hS:∀(v3 v4 v12 v13 v14 v15 v16 v17 v18 v19 v20 v21 v22 v23 v24 v25 v26 v27 v28 v29 v30 v31 v32 v33 v34 v35 v36 v37 v38 v39 v40 v41 v42 v43 v44 v45 v46 v47 v48 v49 v50 v51 v52 v53 v54 v55 v56 v57 v58 v59 v60 v61 v62 v63 v64 v65:Value) (O:Nat→Prop) (bg:Nat) (w:World),IsBg d O bg→DlF d bg tk0 w→H0 (d.p.Kx Tryz.prog) (AftZ (d.p.Kx Tryz.prog) 0 tk0) 200 O (G ((base 25).at ⟨#[d.ws,.int .i64 d.hs,fnV d.p.T d.p.b6 d.p.b7 d.p.b8,v3,v4,.pointer (some ⟨d.p.bM,0,none⟩),.slice none 0 0,.pointer (some ⟨d.p.bO,0,none⟩),.pointer (some ⟨d.p.bB,0,none⟩),.pointer (some ⟨d.p.Wg,0,none⟩),.slice (some ⟨bg,0,none⟩) d.p.N d.p.N,.int .i64 0,v12,v13,v14,v15,v16,v17,v18,v19,v20,v21,v22,v23,v24,v25,v26,v27,v28,v29,v30,v31,v32,v33,v34,v35,v36,v37,v38,v39,v40,v41,v42,v43,v44,v45,v46,v47,v48,v49,v50,v51,v52,v53,v54,v55,v56,v57,v58,v59,v60,v61,v62,v63,v64,v65],[]⟩ [.code (dlL2x Tryz.f25),.inLoop (dlL2x Tryz.f25),.inBlock 2,.code ((dlCx Tryz.f25) 7)]) (d.c::d.cs)) w:=fun v3 v4 v12 v13 v14 v15 v16 v17 v18 v19 v20 v21 v22 v23 v24 v25 v26 v27 v28 v29 v30 v31 v32 v33 v34 v35 v36 v37 v38 v39 v40 v41 v42 v43 v44 v45 v46 v47 v48 v49 v50 v51 v52 v53 v54 v55 v56 v57 v58 v59 v60 v61 v62 v63 v64 v65 O bg w hB hF=>dl_aft h ha hB hF ⟨v3,v4,v12,v13,v14,v15,v16,v17,v18,v19,v20,v21,v22,v23,v24,v25,v26,v27,v28,v29,v30,v31,v32,v33,v34,v35,v36,v37,v38,v39,v40,v41,v42,v43,v44,v45,v46,v47,v48,v49,v50,v51,v52,v53,v54,v55,v56,v57,v58,v59,v60,v61,v62,v63,v64,v65,rfl⟩
 unfold SpnZ H0 at *
 generalize hAf:AftZ (d.p.Kx Tryz.prog) 0 tk0=Nx at hS ⊢
 simp only[dlL1x,dlL2x,dlCx,seqTl,Tryz.f25]at hS ⊢
 simp only[DlP.ws]at hS ⊢
 refine goes_hg (n:=40) (m:=260) ?_
 repeat(first|u_c stepG_region_end RL hF|u_c stepG_seq RL hF|u_reg RL hF|u_cnd true RL hF|u_cnd false RL hF|u_c stepG_skip RL hF|u_op RL hF|u_skip RL hF)
 u_exit RL hF
 repeat(first|u_c stepG_region_end RL hF|u_c stepG_seq RL hF|u_reg RL hF|u_cnd true RL hF|u_cnd false RL hF|u_c stepG_skip RL hF|u_op RL hF|u_skip RL hF)
 refine Goes.stop (fun w₁ h₁=>?_)
 replace hF:=RL hF h₁
 clear h₁
 refine hg_newv (n:=259) RL hF (.cells (gotA d.p.N tk0) 39) (fun s=> .slice (some ⟨s,0,none⟩) d.p.N d.p.N) rfl rfl (by decide) (fun w1=>?_) (fun w1=>?_) (fun w1 hF1=>?_)
 ·have hm:=got_make w1 d.p.N hN
  go_simp
 ·have hm:=got_make_ev w1 d.p.N hN
  simp[go_sem, *]
 obtain⟨x,hx⟩:∃x,x=w1.heap.size:=⟨_,rfl⟩
 have hd1:=h.ok.ok.hdw hF1.2
 have hxW:d.p.Wg<w1.heap.size:=by
  obtain⟨st,sm,hl⟩:=hF1.1
  exact lt_of_some hl
 have hBx:IsBg d (fun y=>noB y∨y=x) x:=⟨Or.inr rfl,fun b hb=>hb.elim (fun c=>c.elim) (fun e=>by omega),fun c=>by have:=hd1.lt x c;omega,by omega,by have:=hd1.lt _ hd1.rO;omega⟩
 have hold:∀b,b<w1.heap.size→({ w1 with heap:=w1.heap.push (.cells (gotA d.p.N tk0) 39)}:World).heap[b]?=w1.heap[b]?:=fun b hb=>by
  show(w1.heap.push _)[b]?=_
  rw[Array.getElem?_push,if_neg (by omega)]
 have hF2:DlF d x tk0 { w1 with heap:=w1.heap.push (.cells (gotA d.p.N tk0) 39)}:=by
  obtain⟨st,sm,hl⟩:=hF1.1
  refine⟨⟨⟨st,sm,(hold _ hxW).trans hl⟩,fun b hb=>(hold b (hd1.lt b hb)).trans (hF1.2 b hb)⟩,?_⟩
  subst hx
  show(w1.heap.push _)[w1.heap.size]?=_
  simp
 rw[←hx]
 generalize ({ w1 with heap:=w1.heap.push (.cells (gotA d.p.N tk0) 39)}:World)=w2 at hF2 ⊢
 clear hF hF1 hd1 hxW hold hx RL
 have RL2:∀ {w w1},DlF d x tk0 w→Rly d.p.rd (Lvx (d.p.Kx Tryz.prog)) (fun y=>noB y∨y=x) w w1→DlF d x tk0 w1:=dlf_rely hBx.1
 walk_nrm
 refine goes_hg (n:=59) (m:=200) ?_
 repeat(first|u_c stepG_region_end RL2 hF2|u_c stepG_seq RL2 hF2|u_reg RL2 hF2|u_cnd true RL2 hF2|u_cnd false RL2 hF2|u_c stepG_skip RL2 hF2|u_op RL2 hF2|u_skip RL2 hF2)
 u_c stepG_block RL2 hF2
 u_c stepG_loop RL2 hF2
 refine Goes.stop (fun w₁ h₁=>?_)
 exact hS _ _ _ _ _ _ _ _ _ _ _ _ _ _ _ _ _ _ _ _ _ _ _ _ _ _ _ _ _ _ _ _ _ _ _ _ _ _ _ _ _ _ _ _ _ _ _ _ _ _ _ _ _ _ _ _ _ x w₁ hBx (RL2 hF2 h₁)
end
end
end Go.Proofs.YtedifobeggabnaaGreat
