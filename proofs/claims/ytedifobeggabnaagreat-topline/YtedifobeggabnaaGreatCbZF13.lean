/- Texts of ours, one behind the other: ZF13 ZF14. -/
import Derived.Test.YtedifobeggabnaaGreatCbZF7
namespace Go.Proofs.YtedifobeggabnaaGreat
section
open Go.Conc Go.RowKit Go.ConcR.Gen
open Go.ConcR (KK WgAt stA smA)
open Go.ConcN.Gen
theorem spawn0 {P:Program}{main:Bool}{b:Frame}{a:Act}{ops:Array Oper}{i:Nat}{rest:List Nat}{o:Oper}{k:List Item}{cs:List Frame}{d:Deferred}{f:Fn}{c:Array Value}{w:World}(ho:ops[i]?=some o)(hw:Region.wanted o (yielded ops a.tmps)=true)(hk:b.kind ≠ .early)(hr:(execOp a.eval o).run P w = .ok (.spawn d) w)(hd:d.target = .fn f c)(hl:listed P b.fn a o w = #[]) :
  stepG P main (G (b.at a (.inRegion ops (i::rest)::k)) cs) w = .spawn (G (b.at (a.put o.dst undef) (.inRegion ops rest::k)) cs) (born P d) w #[]:=by
 rw[stepG_spawn ho hw hk hr hd,hl]
section
variable {d:DlP}{O:Nat→Prop}{w w1:World}{i j bg:Nat}{fr:Frame}{tM:TypeId}
set_option maxRecDepth 100000 in
set_option maxHeartbeats 8000000 in
theorem dl_spn(h:d.Okk tM)(ha:d.p.Anc=AncF d)(hH:d.p.H<1000000):∀(r j:Nat) (fr:Frame) (w:World),j+r=d.p.H→SpF0 d w→DlS d j fr→H0 (d.p.Kx Tryz.prog) (SpnZ (d.p.Kx Tryz.prog) r) 340 noB (G fr (d.c::d.cs)) w:=by
 intro r
 induction r with
 | zero=>
  intro j fr w hj hF hS
  have e:j=d.p.H:=by omega
  subst e
  exact hg_up (n:=300) 40 (dl_spn0 h ha hF hS)
 | succ r ih=>
  intro j fr w hj hF hfr
  have RL:∀ {w w1},SpF0 d w→Rly d.p.rd (Lvx (d.p.Kx Tryz.prog)) noB w w1→SpF0 d w1:=fun h r=>wgl_rely r h
  obtain⟨v3,v4,v10,v11,v12,v13,v14,v15,v16,v17,v20,v21,v22,v23,v24,v25,v26,v27,v28,v29,v30,v31,v32,v33,v34,v35,v36,v37,v38,v39,v40,v41,v42,v43,v44,v45,v46,v47,v48,v49,v50,v51,v52,v53,v54,v55,v56,v57,v58,v59,v60,v61,v62,v63,v64,v65,rfl⟩:=hfr
  have q1:decide ((j:Int)<(d.p.H:Int))=true:=decide_eq_true (by omega)
  have z1:IntKind.i64.wrap ((j:Int)+1)=((j+1:Nat):Int):=by simp only[IntKind.wrap,go_sem];simp;omega
  have hS:∀(v3 v4 v10 v11 v12 v13 v14 v15 v16 v17 v20 v21 v22 v23 v24 v25 v26 v27 v28 v29 v30 v31 v32 v33 v34 v35 v36 v37 v38 v39 v40 v41 v42 v43 v44 v45 v46 v47 v48 v49 v50 v51 v52 v53 v54 v55 v56 v57 v58 v59 v60 v61 v62 v63 v64 v65:Value) (w:World),SpF0 d w→H0 (d.p.Kx Tryz.prog) (SpnZ (d.p.Kx Tryz.prog) r) 340 noB (G ((base 25).at ⟨#[d.ws,.int .i64 d.hs,fnV d.p.T d.p.b6 d.p.b7 d.p.b8,v3,v4,.pointer (some ⟨d.p.bM,0,none⟩),.slice none 0 0,.pointer (some ⟨d.p.bO,0,none⟩),.pointer (some ⟨d.p.bB,0,none⟩),.pointer (some ⟨d.p.Wg,0,none⟩),v10,v11,v12,v13,v14,v15,v16,v17,.int .i64 d.p.H,.int .i64 ((j+1:Nat):Int),v20,v21,v22,v23,v24,v25,v26,v27,v28,v29,v30,v31,v32,v33,v34,v35,v36,v37,v38,v39,v40,v41,v42,v43,v44,v45,v46,v47,v48,v49,v50,v51,v52,v53,v54,v55,v56,v57,v58,v59,v60,v61,v62,v63,v64,v65],[]⟩ [.code (dlL1x Tryz.f25),.inLoop (dlL1x Tryz.f25),.inBlock 0,.code ((dlCx Tryz.f25) 5)]) (d.c::d.cs)) w:=fun v3 v4 v10 v11 v12 v13 v14 v15 v16 v17 v20 v21 v22 v23 v24 v25 v26 v27 v28 v29 v30 v31 v32 v33 v34 v35 v36 v37 v38 v39 v40 v41 v42 v43 v44 v45 v46 v47 v48 v49 v50 v51 v52 v53 v54 v55 v56 v57 v58 v59 v60 v61 v62 v63 v64 v65 w hF=>ih (j+1) _ w (by omega) hF ⟨v3,v4,v10,v11,v12,v13,v14,v15,v16,v17,v20,v21,v22,v23,v24,v25,v26,v27,v28,v29,v30,v31,v32,v33,v34,v35,v36,v37,v38,v39,v40,v41,v42,v43,v44,v45,v46,v47,v48,v49,v50,v51,v52,v53,v54,v55,v56,v57,v58,v59,v60,v61,v62,v63,v64,v65,rfl⟩
  clear ih
  unfold SpnZ
  generalize SpnZ (d.p.Kx Tryz.prog) r=Nx at hS ⊢
  unfold H0 at *
  refine goes_hg (n:=39) (m:=301) ?_
  simp only[dlL1x,dlCx,seqTl,Tryz.f25]at hS ⊢
  repeat(first|u_c stepG_region_end RL hF|u_c stepG_seq RL hF|u_reg RL hF|u_cnd true RL hF|u_cnd false RL hF|u_c stepG_skip RL hF|u_op RL hF|u_skip RL hF)
  u_c stepG_block RL hF
  repeat(first|u_c stepG_region_end RL hF|u_c stepG_seq RL hF|u_reg RL hF|u_cnd true RL hF|u_cnd false RL hF|u_c stepG_skip RL hF|u_op RL hF|u_skip RL hF)
  refine Goes.stop (fun w₁ h₁=>?_)
  replace hF:=RL hF h₁
  clear h₁
  refine hg_call (n:=300) (f:=49) (vs := #[.pointer (some ⟨d.p.Wg,0,none⟩),.int .i64 1]) rfl rfl (by decide) rfl Tryz.func49 (by kernel_rfl) (by kernel_rfl) (by go_simp) ?_
  refine gadd (F:=SpF0 d) (m:=40) RL (fun w v hF=>spf_set h v hF) (fun w hF=>hF.1) hF (fun w hF=>?_)
  unfold H0
  walk_nrm
  refine goes_hg (n:=30) (m:=10) ?_
  repeat(first|u_c stepG_region_end RL hF|u_c stepG_seq RL hF|u_reg RL hF|u_cnd true RL hF|u_cnd false RL hF|u_c stepG_skip RL hF|u_op RL hF|u_skip RL hF)
  refine Goes.stop (fun w₁ h₁=>?_)
  replace hF:=RL hF h₁
  clear h₁
  have hmf:∀(fn:Fn) (x y:Array Value) (w:World),(Instr.makeFunc fn x y).run Tryz.prog w = .ok (.func fn x y) w:=fun _ _ _ _=>rfl
  have hme:∀(fn:Fn) (x y:Array Value) (w:World) (es:Array Event),(Instr.makeFunc fn x y).events Tryz.prog w es=es:=fun _ _ _ _ _=>rfl
  refine hg_value (n:=9) (.func (.func 50) #[] #[.pointer (some ⟨d.p.Wg,0,none⟩),.pointer (some ⟨d.p.bO,0,none⟩),.pointer (some ⟨d.p.bB,0,none⟩),.pointer (some ⟨d.p.bM,0,none⟩)]) rfl rfl (by decide) (fun w1 _=>by go_simp) (fun w1 _ e he=>by simp[go_sem,hme]at he) ?_
  walk_nrm
  refine HG.stop (fun w₂ h₂=>?_)
  replace hF:=RL hF h₂
  clear h₂
  have hd:=h.ok.ok.hdw hF.2
  refine⟨rfl,_,_,spawn0 (d:=hdCall d.p.Wg d.p.bO d.p.bB d.p.bM) rfl rfl (by decide) (by simp[go_sem,hdCall,Deferred.ofValue]) rfl (by simp[listed,go_sem,Deferred.ofValue,seen_none]),?_,?_⟩
  ·obtain⟨n,hn⟩:=hand_start (Lv:=Lvx (d.p.Kx Tryz.prog)) hd
   exact⟨n,hn⟩
  ·refine⟨340+40,?_⟩
   unfold H0
   walk_nrm
   refine goes_hg (n:=40) (m:=340) ?_
   repeat(first|u_c stepG_region_end RL hF|u_c stepG_seq RL hF|u_reg RL hF|u_cnd true RL hF|u_cnd false RL hF|u_c stepG_skip RL hF|u_op RL hF|u_skip RL hF)
   u_c stepG_inBlock RL hF
   repeat(first|u_c stepG_region_end RL hF|u_c stepG_seq RL hF|u_reg RL hF|u_cnd true RL hF|u_cnd false RL hF|u_c stepG_skip RL hF|u_op RL hF|u_skip RL hF)
   u_c stepG_inLoop RL hF
   refine Goes.stop (fun w₁ h₁=>?_)
   exact hS _ _ _ _ _ _ _ _ _ _ _ _ _ _ _ _ _ _ _ _ _ _ _ _ _ _ _ _ _ _ _ _ _ _ _ _ _ _ _ _ _ _ _ _ _ _ _ _ _ _ _ _ _ _ _ _ w₁ (RL hF h₁)
end
end
section
open Go.Conc Go.RowKit Go.ConcR.Gen
section
variable {d:DlP}{O:Nat→Prop}{w w1:World}{tk:Nat→Option Value}{i j bg:Nat}{fr:Frame}{tM:TypeId}
theorem aft_ok(h:d.Okk tM)(ha:d.p.Anc=AncF d)(hi:i≤d.p.N)(hB:IsBg d O bg)(hF:DlF d bg tk w)(hH:DlH d bg i fr):H0 (d.p.Kx Tryz.prog) (AftZ (d.p.Kx Tryz.prog) i tk) 200 O (G fr (d.c::d.cs)) w:=by
 by_cases hN:i<d.p.N
 ·exact(dl_more h.ok hB hN hF hH).mono fun O g w hx=>Or.inl ⟨hN,hx⟩
 ·have e:i=d.p.N:=by omega
  exact hg_up (n:=60) 140 ((dl_none h ha hB hF (by rw[←e];exact hH)).mono fun O g w hx=>Or.inr ⟨e,hx⟩)
theorem sel_f {cs:List Frame}(h:d.Okk tM)(hR:(d.p.Kx Tryz.prog).Sel i O fr cs):SelF d i O fr cs:=by
 have hR:d.p.Sel i O fr cs:=hR
 rw[h.ok.Sel]at hR
 exact hR
theorem rng_f {cs:List Frame}(h:d.Okk tM)(hR:(d.p.Kx Tryz.prog).Rng O fr cs):RngF d O fr cs:=by
 have hR:d.p.Rng O fr cs:=hR
 rw[h.ok.Rng]at hR
 exact hR
theorem got_f(h:d.Okk tM)(hG:(d.p.Kx Tryz.prog).Got tk O w):GotF d tk O w:=by
 have hG:d.p.Got tk O w:=hG
 rw[h.ok.Got]at hG
 exact hG
theorem main_ok(h:d.Okk tM)(ha:d.p.Anc=AncF d):MainOk (d.p.Kx Tryz.prog) where
 sel:=fun i O fr cs w hR=>dl_sel h.ok (sel_f h hR) w
 sent:=fun i tk O fr cs w hR hi hG hlv hrd=>⟨_,dl_sent h.ok (sel_f h hR) (got_f h hG) hlv hrd (fun bg w fr hB hF hH=>aft_ok h ha hi hB hF hH) hi⟩
 took:=fun i tk O fr cs w j v hR hi hj hv hG hlv hrd=>by
  obtain⟨w0,hv⟩:=hv
  obtain⟨go,gn,gc,rfl⟩:=h.ok.ok.gmv j v w0 hv
  exact⟨_,dl_took h.ok (sel_f h hR) (got_f h hG) hlv hrd hj fun O bg w fr hB hF hH=>dl_more h.ok hB hi hF hH⟩
 anc:=fun tk O g w hA=>anc_ok h ha hA
 rng:=fun O fr cs w hR=>dl_rng h.ok (rng_f h hR) w
 got:=fun tk O fr cs w j v hR hj hv hG hlv hrd=>by
  obtain⟨w0,hv⟩:=hv
  obtain⟨go,gn,gc,rfl⟩:=h.ok.ok.gmv j v w0 hv
  exact⟨_,dl_got h.ok (rng_f h hR) (got_f h hG) hlv hrd hj fun O bg w fr hB hF hH=>dl_rhead h.ok hB hF hH⟩
 over:=fun tk O fr cs w hR hG hlv hrd=>⟨_,dl_over h.ok (rng_f h hR) (got_f h hG) hlv hrd⟩
 fin:=fun tk O g w hF=>by
  have hF:d.p.Fin tk O g w:=hF
  rw[h.ok.Fin]at hF
  obtain⟨bg,_,_,rfl⟩:=hF
  rfl
end
end
end Go.Proofs.YtedifobeggabnaaGreat
