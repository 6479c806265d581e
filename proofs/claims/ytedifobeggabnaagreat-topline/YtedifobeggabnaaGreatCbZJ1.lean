/- Texts of ours, one behind the other: ZJ1 ZJ3 ZJ4 ZJ5. -/
import Derived.Test.YtedifobeggabnaaGreatCbZJ0
import Derived.Test.YtedifobeggabnaaGreatCbZH2
import Derived.Test.YtedifobeggabnaaGreatCbZI0
import Derived.Test.YtedifobeggabnaaGreatCbZI5
import Derived.Conc.SmallLaws
namespace Go.Proofs.YtedifobeggabnaaGreat
section
open Go.Conc Go.RowKit Go.ConcR.Gen
open Go.ConcN.Gen
theorem Tryz.infoSent:(Tryz.prog.info? 98).map (fun i=>(i.zero,i.size,i.bytes))=some (some (.agg #[.int .i64 0,.slice none 0 0]),2,32):=by kernel_rfl
theorem Tryz.infoTold:(Tryz.prog.info? 100).map (fun i=>(i.zero,i.size,i.bytes))=some (some (.agg #[.int .i64 0,.slice none 0 0,.int .i64 0,.bool false]),4,48):=by kernel_rfl
theorem mkO_run(w:World):(Instr.makeChan 86 (.int .i64 0)).run Tryz.prog w = .ok (.chan (some w.heap.size)) { w with heap:=w.heap.push (.chan 0 #[] false 0 0 false)}:=by
 obtain⟨i0,hi,_,_,hb⟩:=info_parts Tryz.infoSent
 exact run_makeChan (P:=Tryz.prog) (w:=w) Tryz.underlying86 hi .i64 0 (by omega) (by rw[hb];omega)
theorem mkO_ev(w:World):(Instr.makeChan 86 (.int .i64 0)).events Tryz.prog w #[] = #[]:=by
 obtain⟨i0,hi,_,_,hb⟩:=info_parts Tryz.infoSent
 exact events_makeChan (P:=Tryz.prog) (w:=w) Tryz.underlying86 hi .i64 0 (by omega) (by rw[hb];omega) #[]
theorem mkB_run(N:Nat)(hN:N≤900)(w:World):(Instr.makeChan 87 (.int .i64 (N:Nat))).run Tryz.prog w = .ok (.chan (some w.heap.size)) { w with heap:=w.heap.push (.chan N #[] false 0 0 false)}:=by
 obtain⟨i0,hi,_,_,hb⟩:=info_parts Tryz.infoTold
 exact run_makeChan (P:=Tryz.prog) (w:=w) Tryz.underlying87 hi .i64 N (by omega) (by rw[hb];omega)
theorem mkB_ev(N:Nat)(hN:N≤900)(w:World):(Instr.makeChan 87 (.int .i64 (N:Nat))).events Tryz.prog w #[] = #[]:=by
 obtain⟨i0,hi,_,_,hb⟩:=info_parts Tryz.infoTold
 exact events_makeChan (P:=Tryz.prog) (w:=w) Tryz.underlying87 hi .i64 N (by omega) (by rw[hb];omega) #[]
def luCx(f:Func):Nat→Code
 | 0=>match f.body with|some c=>c|_=> .skip
 |n+1=>seqTl (luCx f n)
def luR7x(f:Func):Array Oper:=match luCx f 4 with | .seq (.region _ ops _) _=>ops|_ => #[]
def luFx(f:Func)(q k:Int)(xo:Option Addr)(n cx:Nat)(ms ns:Value)(hs b6 b7 b8 T g0 N:Nat):Frame:=
 (base 9).at ⟨#[.int .i64 q,.slice xo n cx,.int .i64 k,ms,ns,.int .i64 (hs:Nat),.pointer (some ⟨b6,0,none⟩),.pointer (some ⟨b7,0,none⟩),.pointer (some ⟨b8,0,none⟩),undef,undef,undef,.slice none 0 0,.int .i64 0,.int .i64 0,.int .i64 0,.int .i64 0,.pointer (some ⟨T,0,none⟩),.int .i64 q,.slice xo n cx,.int .i64 k,ms,ns,.int .i64 0,.int .i64 0,.bool false,undef,.int .i64 (hs:Nat),.bool false,.bool false,.int .i64 (hs:Nat),.bool false,.bool false,.int .i64 q,.slice xo n cx,ms,ns,.slice (some ⟨g0,0,none⟩) N N,.int .i64 (hs:Nat),fnV T b6 b7 b8,undef,undef,undef,undef,undef,undef],[]⟩ [.inRegion (luR7x f) [7,8],.code (luCx f 5)]
def rnP(q k:Int)(xo:Option Addr)(n cx N hs b6 b7 b8 T bM cO bO cB bB Wg bx:Nat)(bw:Nat→Nat)(er:Nat→Nat)(ls:Nat→Bool)(kk:Nat)(am:Nat→Nat→Nat)(rd:Nat→Prop):LnP where
 cO:=cO
 cB:=cB
 Wg:=Wg
 T:=T
 bO:=bO
 bB:=bB
 bM:=bM
 b6:=b6
 b7:=b7
 b8:=b8
 q:=q
 k:=k
 xs:= .slice xo n cx
 wo:=fun i=>some ⟨bw i,0,none⟩
 wn:=fun _=>n
 wc:=fun _=>n
 N:=N
 H:=hs
 nb:=0
 p0:=0
 er:=er
 ls:=ls
 GM:=GmG bO ls er kk am
 rd:=rd
 w0:=default
 Qm:=fun i b=>i<N∧(b=bx∨b=bw i)
 F:=fxL mdL
 et:=3
 zB:=zTold
 Sel:=fun _ _ _ _=>False
 Rng:=fun _ _ _=>False
 Got:=fun _ _ _=>False
 Anc:=fun _ _ _ _=>False
 Fin:=fun _ _ _ _=>False
structure RnD(B:Nat)(h:Nat→Option Obj)(q k:Int)(xo:Option Addr)(n cx N:Nat)(y:Nat→Nat→Int)(b6 b7 b8 T bM cO bO cB bB Wg g0:Nat)(bw:Nat→Nat)(hE zE:Nat→Option Obj):Prop where
 old:∀b o,h b=some o→hE b=some o
 e6:hE b6=some (.cells #[.int .i64 q] 3)
 e7:hE b7=some (.cells #[.slice xo n cx] 22)
 e8:hE b8=some (.cells #[.int .i64 k] 3)
 eM:hE bM=some (.cells #[fnV T b6 b7 b8] 67)
 eO:hE bO=some (.cells #[.chan (some cO)] 86)
 eB:hE bB=some (.cells #[.chan (some cB)] 87)
 zT:zE T=some (.cells #[.int .i64 0,.int .i64 0] 62)
 zO:zE cO=some (.chan 0 #[] false 0 0 false)
 zB:zE cB=some (.chan N #[] false 0 0 false)
 zW:zE Wg=some (.cells #[.int .u64 0,.int .u32 0] 94)
 lT:B≤T∧T<cO∧cO<cB∧cB<Wg
 lb:B≤b6∧B≤b7∧B≤b8∧B≤bM∧B≤bO∧T<bO∧bO<bB
 wr:∃(B':Nat) (V:World),B≤B'∧WrS B' g0 N n N bw y V∧∀b c t,B'≤b→V.heap[b]?=some (.cells c t)→hE b=some (.cells c t)
def RunSee(h:Nat→Option Obj)(q k:Int)(xo:Option Addr)(n cx:Nat)(ms ns:Value)(N:Nat)(y:Nat→Nat→Int)(W:World):Prop:=∃(F:Fx) (Q:Nat→Prop) (V:World), SeeR Tryz.prog h [.slice xo n cx, ms, ns] W F Q V∧F.fn 8∧F.fn 26 ∧
  (∀T d,Calls Tryz.prog 8 #[.int .i64 q,.slice xo n cx,.int .i64 k,ms,ns] (rtp V T d) fun e _=>e = .returned (.int .i64 0))∧
  (∀T d,Calls Tryz.prog 26 #[.int .i64 q,.slice xo n cx,ms,ns] (rtp V T d) fun e w'=>∃g0 bw,e = .returned (.slice (some ⟨g0,0,none⟩) N N)∧WrS V.heap.size g0 N n N bw y w')
section
variable {Stop:(Nat→Prop)→Goroutine→World→Prop}{O:Nat→Prop}{w:World}{h:Nat→Option Obj}{B:Nat}{c:Frame}{cs:List Frame}{q k:Int}{xo:Option Addr}{n cx:Nat}{ms ns:Value}{hs:Nat}{N:Nat}{y:Nat→Nat→Int}
set_option maxRecDepth 100000 in
set_option maxHeartbeats 16000000 in
theorem run_wk(hK:Kp B h (fun _=>none) O w)(hs1:1≤hs)(hs8:hs≤8)(hN:N≤900)(hSee:∀W:World, (∀b o, h b=some o→W.heap[b]?=some o)→RunSee h q k xo n cx ms ns N y W)
  (hNx:∀(b6 b7 b8 T bM cO bO cB bB Wg g0:Nat) (bw:Nat→Nat) (hE zE:Nat→Option Obj) (O':Nat→Prop) (w':World) (fr:Frame),RnD B h q k xo n cx N y b6 b7 b8 T bM cO bO cB bB Wg g0 bw hE zE→Kp B hE zE O' w'→(∀b,O' b→O b∨B≤b)→(∀b,O b→O' b)→
   (∀bx er ls kk am rd,DlS ⟨rnP q k xo n cx N hs b6 b7 b8 T bM cO bO cB bB Wg bx bw er ls kk am rd,g0,N,(hs:Nat),(luFx Tryz.f9) q k xo n cx ms ns hs b6 b7 b8 T g0 N,c::cs⟩ 0 fr)→Wk Tryz.prog Stop O' (G fr ((luFx Tryz.f9) q k xo n cx ms ns hs b6 b7 b8 T g0 N::c::cs)) w'):Wk Tryz.prog Stop O (G (Frame.enter Tryz.prog 9 #[.int .i64 q,.slice xo n cx,.int .i64 k,ms,ns,.int .i64 (hs:Nat)] .normal) (c::cs)) w:=by
 have RL:∀ {O:Nat→Prop} {h z:Nat→Option Obj} {w w1:World},Kp B h z O w→Rly noB (LvZ z) O w w1→Kp B h z O w1:=fun hK r=>hK.rely r
 rw[enter_at _ Tryz.func9 rfl]
 walk_nrmf Tryz.f9
 refine hg_then (n:=100) hK ?_
 refine goes_hg (n:=20) (m:=80) ?_
 repeat(first|u_c stepG_region_end RL hK|u_c stepG_seq RL hK|u_reg RL hK|u_cnd true RL hK|u_cnd false RL hK|u_c stepG_skip RL hK|u_op RL hK|u_skip RL hK)
 refine Goes.stop (fun w₁ h₁=>?_)
 replace hK:=RL hK h₁
 clear h₁
 refine hk_alloc (n:=79) hK (.cells #[.int .i64 q] 3) (fun x=> .pointer (some ⟨x,0,none⟩)) rfl rfl (by decide) (fun w1=>by go_simp) (fun w1=>by simp[go_sem]) (fun b6 w6 hB6 hl6 _ hK=>?_)
 walk_nrm
 refine hk_alloc (n:=78) hK (.cells #[.slice xo n cx] 22) (fun x=> .pointer (some ⟨x,0,none⟩)) rfl rfl (by decide) (fun w1=>by go_simp) (fun w1=>by simp[go_sem]) (fun b7 w7 hB7 hl7 _ hK=>?_)
 walk_nrm
 refine hk_alloc (n:=77) hK (.cells #[.int .i64 k] 3) (fun x=> .pointer (some ⟨x,0,none⟩)) rfl rfl (by decide) (fun w1=>by go_simp) (fun w1=>by simp[go_sem]) (fun b8 w8 hB8 hl8 _ hK=>?_)
 walk_nrm
 have h67:b6<b7:=hl7 b6 _ (putB_self _ _ _)
 have h78:b7<b8:=hl8 b7 _ (putB_self _ _ _)
 have e6:putB (putB (putB h b6 (.cells #[.int .i64 q] 3)) b7 (.cells #[.slice xo n cx] 22)) b8 (.cells #[.int .i64 k] 3) b6=some (.cells #[.int .i64 q] 3):=by rw[putB_ne _ _ (by omega),putB_ne _ _ (by omega),putB_self]
 have e7:putB (putB (putB h b6 (.cells #[.int .i64 q] 3)) b7 (.cells #[.slice xo n cx] 22)) b8 (.cells #[.int .i64 k] 3) b7=some (.cells #[.slice xo n cx] 22):=by rw[putB_ne _ _ (by omega),putB_self]
 have e8:putB (putB (putB h b6 (.cells #[.int .i64 q] 3)) b7 (.cells #[.slice xo n cx] 22)) b8 (.cells #[.int .i64 k] 3) b8=some (.cells #[.int .i64 k] 3):=putB_self _ _ _
 have g0:∀b,b≠b6→b≠b7→b≠b8→putB (putB (putB h b6 (.cells #[.int .i64 q] 3)) b7 (.cells #[.slice xo n cx] 22)) b8 (.cells #[.int .i64 k] 3) b=h b:=fun b h1 h2 h3=>by rw[putB_ne _ _ h3,putB_ne _ _ h2,putB_ne _ _ h1]
 generalize putB (putB (putB h b6 (.cells #[.int .i64 q] 3)) b7 (.cells #[.slice xo n cx] 22)) b8 (.cells #[.int .i64 k] 3)=h1 at hK e6 e7 e8 g0
 refine goes_hg (n:=20) (m:=57) ?_
 repeat(first|u_c stepG_region_end RL hK|u_c stepG_seq RL hK|u_reg RL hK|u_cnd true RL hK|u_cnd false RL hK|u_c stepG_skip RL hK|u_op RL hK|u_skip RL hK)
 refine Goes.stop (fun w₁ h₁=>?_)
 replace hK:=RL hK h₁
 clear h₁
 refine hk_load (n:=56) (off:=0) (.int .i64 q) hK e6 rfl rfl rfl (by decide) (fun w1 h1=>by go_simp) (fun w1 h1=>by simp[go_sem, *]) ?_
 walk_nrm
 refine hk_load (n:=55) (off:=0) (.slice xo n cx) hK e7 rfl rfl rfl (by decide) (fun w1 h1=>by go_simp) (fun w1 h1=>by simp[go_sem, *]) ?_
 walk_nrm
 refine hk_load (n:=54) (off:=0) (.int .i64 k) hK e8 rfl rfl rfl (by decide) (fun w1 h1=>by go_simp) (fun w1 h1=>by simp[go_sem, *]) ?_
 walk_nrm
 refine goes_hg (n:=20) (m:=34) ?_
 repeat(first|u_c stepG_region_end RL hK|u_c stepG_seq RL hK|u_reg RL hK|u_cnd true RL hK|u_cnd false RL hK|u_c stepG_skip RL hK|u_op RL hK|u_skip RL hK)
 refine Goes.stop (fun w₁ h₁=>?_)
 replace hK:=RL hK h₁
 clear h₁
 refine hg_call (n:=33) (f:=8) (vs := #[.int .i64 q,.slice xo n cx,.int .i64 k,ms,ns]) rfl rfl (by decide) rfl Tryz.func8 (by kernel_rfl) (by kernel_rfl) (by go_simp) ?_
 refine HG.stop (fun w₂ h₂=>?_)
 replace hK:=RL hK h₂
 clear h₂
 have g1:∀b o,h b=some o→h1 b=some o:=fun b o e=>by
  have:=hl6 b o e
  rw[g0 b (by omega) (by omega) (by omega)]
  exact e
 have hBc1:B≤w₂.heap.size:=hK.size
 obtain⟨F1,Q1,V1,hS1,hf1,_,hc1,_⟩:=hSee w₂ fun b o e=>hK.mem b o (g1 b o e)
 refine call_kpV (R:=fun v _=>v = .int .i64 0) hK hS1 g1 (by kernel_rfl) hf1 (fun v hv=>?_) (fun T d=>(hc1 T d).mono fun e u he=>⟨_,he,rfl⟩) (fun v V T d hp=>hp) (fun v V1 W1 hv _ hK1=>?_)
 ·simp only[List.mem_toArray,List.mem_cons,List.not_mem_nil,or_false]at hv
  rcases hv with rfl|rfl|rfl|rfl|rfl<;>first|exact Or.inr ⟨_,_,rfl⟩|exact Or.inl (by simp)
 subst hv
 replace hK:=hK1.weak (h':=h1) fun b o e=>extB_old e
 clear hK1
 rw[Frame.finish_at]
 walk_nrm
 have q1:decide ((hs:Int)<1)=false:=decide_eq_false (by omega)
 have q2:decide (8<(hs:Int))=false:=decide_eq_false (by omega)
 refine hg_then (n:=100) hK ?_
 refine goes_hg (n:=60) (m:=40) ?_
 repeat(first|u_c stepG_region_end RL hK|u_c stepG_seq RL hK|u_reg RL hK|u_cnd true RL hK|u_cnd false RL hK|u_c stepG_skip RL hK|u_op RL hK|u_skip RL hK)
 refine Goes.stop (fun w₁ h₁=>?_)
 replace hK:=RL hK h₁
 clear h₁
 refine HG.stop (fun w₂ h₂=>?_)
 replace hK:=RL hK h₂
 clear h₂
 refine wk_newv (.cells #[.int .i64 0,.int .i64 0] 62) (fun x=> .pointer (some ⟨x,0,none⟩)) rfl rfl (by decide) (fun w1=>by go_simp) (fun w1=>by simp[go_sem]) (fun d=>?_)
 have hBT:B≤w₂.heap.size:=hK.size
 replace hK:=hK.push (.cells #[.int .i64 0,.int .i64 0] 62) d
 have eT:putB (fun _=>none) w₂.heap.size (.cells #[.int .i64 0,.int .i64 0] 62) w₂.heap.size=some (.cells #[.int .i64 0,.int .i64 0] 62):=putB_self _ _ _
 generalize putB (fun _=>none) w₂.heap.size (.cells #[.int .i64 0,.int .i64 0] 62)=z1 at hK eT
 generalize w₂.heap.size=T at hK eT hBT ⊢
 generalize ({ w₂.at d with heap:=w₂.heap.push (.cells #[.int .i64 0,.int .i64 0] 62)}:World)=wT at hK ⊢
 clear d
 walk_nrm
 refine hg_then (n:=100) hK ?_
 refine goes_hg (n:=10) (m:=90) ?_
 repeat(first|u_c stepG_region_end RL hK|u_c stepG_seq RL hK|u_reg RL hK|u_cnd true RL hK|u_cnd false RL hK|u_c stepG_skip RL hK|u_op RL hK|u_skip RL hK)
 refine Goes.stop (fun w₁ h₁=>?_)
 replace hK:=RL hK h₁
 clear h₁
 refine hk_load (n:=89) (off:=0) (.int .i64 q) hK e6 rfl rfl rfl (by decide) (fun w1 h1=>by go_simp) (fun w1 h1=>by simp[go_sem, *]) ?_
 walk_nrm
 refine hk_load (n:=88) (off:=0) (.slice xo n cx) hK e7 rfl rfl rfl (by decide) (fun w1 h1=>by go_simp) (fun w1 h1=>by simp[go_sem, *]) ?_
 walk_nrm
 refine goes_hg (n:=20) (m:=68) ?_
 repeat(first|u_c stepG_region_end RL hK|u_c stepG_seq RL hK|u_reg RL hK|u_cnd true RL hK|u_cnd false RL hK|u_c stepG_skip RL hK|u_op RL hK|u_skip RL hK)
 refine Goes.stop (fun w₁ h₁=>?_)
 replace hK:=RL hK h₁
 clear h₁
 refine hg_call (n:=67) (f:=26) (vs := #[.int .i64 q,.slice xo n cx,ms,ns]) rfl rfl (by decide) rfl Tryz.func26 (by kernel_rfl) (by kernel_rfl) (by go_simp) ?_
 refine HG.stop (fun w₃ h₃=>?_)
 replace hK:=RL hK h₃
 clear h₃
 obtain⟨F2,Q2,V2,hS2,_,hf2,_,hc2⟩:=hSee w₃ fun b o e=>hK.mem b o (g1 b o e)
 have hsz2:V2.heap.size=w₃.heap.size:=hS2.vw.size
 rw[hsz2]at hc2
 refine call_kpV (R:=fun v u=>∃g0 bw,v = .slice (some ⟨g0,0,none⟩) N N∧WrS w₃.heap.size g0 N n N bw y u) hK hS2 g1 (by kernel_rfl) hf2 (fun v hv=>?_) (fun T d=>(hc2 T d).mono ?_) (fun v V T d hp=>?_) (fun v V1 W1 hv hnw hK1=>?_)
 ·simp only[List.mem_toArray,List.mem_cons,List.not_mem_nil,or_false]at hv
  rcases hv with rfl|rfl|rfl|rfl<;>first|exact Or.inr ⟨_,_,rfl⟩|exact Or.inl (by simp)
 ·rintro e u ⟨g0,bw,rfl,hw⟩
  exact⟨_,rfl,g0,bw,rfl,hw⟩
 ·obtain⟨g0,bw,e,hw⟩:=hp
  exact⟨g0,bw,e,hw.out,fun i hi=>hw.row i hi,hw.ge,hw.gb,hw.inj⟩
 obtain⟨g0,bw,rfl,hw⟩:=hv
 obtain⟨h2,hh2⟩:∃h2,h2=extB h1 w₃.heap.size W1:=⟨_,rfl⟩
 have hmO:∀b o,h1 b=some o→h2 b=some o:=fun b o e=>by rw[hh2];exact extB_old e
 have hmW:∀b c t,w₃.heap.size≤b→V1.heap[b]?=some (.cells c t)→h2 b=some (.cells c t):=fun b c t e1 e2=>by rw[hh2];exact extB_new (fun b o e=>hK.ltH e) e1 (hnw b c t e1 e2)
 have hBW3:B≤w₃.heap.size:=hK.size
 have hTW:T<w₃.heap.size:=lt_of_some (hK.spec T _ eT)
 rw[←hh2]at hK1
 clear hh2 hK
 rename Kp _ h2 _ _ _=>hK
 replace e6:=hmO _ _ e6
 replace e7:=hmO _ _ e7
 replace e8:=hmO _ _ e8
 replace g1:∀b o,h b=some o→h2 b=some o:=fun b o e=>hmO b o (g1 b o e)
 rw[Frame.finish_at]
 walk_nrm
 refine hg_then (n:=100) hK ?_
 refine goes_hg (n:=10) (m:=90) ?_
 repeat(first|u_c stepG_region_end RL hK|u_c stepG_seq RL hK|u_reg RL hK|u_cnd true RL hK|u_cnd false RL hK|u_c stepG_skip RL hK|u_op RL hK|u_skip RL hK)
 refine Goes.stop (fun w₁ h₁=>?_)
 replace hK:=RL hK h₁
 clear h₁
 refine hg_call (n:=89) (f:=25) (vs := #[.slice (some ⟨g0,0,none⟩) N N,.int .i64 (hs:Nat),fnV T b6 b7 b8]) rfl rfl (by decide) rfl Tryz.func25 (by kernel_rfl) (by kernel_rfl) (by go_simp;rfl) ?_
 rw[enter_at _ Tryz.func25 rfl]
 walk_nrmf Tryz.f25
 refine goes_hg (n:=10) (m:=79) ?_
 repeat(first|u_c stepG_region_end RL hK|u_c stepG_seq RL hK|u_reg RL hK|u_cnd true RL hK|u_cnd false RL hK|u_c stepG_skip RL hK|u_op RL hK|u_skip RL hK)
 refine Goes.stop (fun w₁ h₁=>?_)
 replace hK:=RL hK h₁
 clear h₁
 refine hk_alloc (n:=78) hK (.cells #[fnV T b6 b7 b8] 67) (fun x=> .pointer (some ⟨x,0,none⟩)) rfl rfl (by decide) (fun w1=>by go_simp;rfl) (fun w1=>by simp[go_sem]) (fun bM wM hBM hlM _ hK=>?_)
 walk_nrm
 have eM:=putB_self h2 bM (.cells #[fnV T b6 b7 b8] 67)
 have hmM:∀b o,h2 b=some o→putB h2 bM (.cells #[fnV T b6 b7 b8] 67) b=some o:=fun b o e=>by rw[putB_ne _ _ (by have:=hlM b o e;omega)];exact e
 generalize putB h2 bM (.cells #[fnV T b6 b7 b8] 67)=h3 at hK eM hmM
 refine goes_hg (n:=20) (m:=58) ?_
 repeat(first|u_c stepG_region_end RL hK|u_c stepG_seq RL hK|u_reg RL hK|u_cnd true RL hK|u_cnd false RL hK|u_c stepG_skip RL hK|u_op RL hK|u_skip RL hK)
 refine Goes.stop (fun w₁ h₁=>?_)
 replace hK:=RL hK h₁
 clear h₁
 refine HG.stop (fun w₂ h₂=>?_)
 replace hK:=RL hK h₂
 clear h₂
 refine wk_newv (.chan 0 #[] false 0 0 false) (fun x=> .chan (some x)) rfl rfl (by decide) (fun w1=>by have:=mkO_run w1;go_simp) (fun w1=>by have:=mkO_ev w1;simp[go_sem, *]) (fun d=>?_)
 have hzl:∀b o,z1 b=some o→b<w₂.heap.size:=fun b o e=>lt_of_some (hK.spec b o e)
 have hTO:T<w₂.heap.size:=hzl T _ eT
 replace hK:=hK.push (.chan 0 #[] false 0 0 false) d
 have eO:=putB_self z1 w₂.heap.size (.chan 0 #[] false 0 0 false)
 have hzO:∀b o,z1 b=some o→putB z1 w₂.heap.size (.chan 0 #[] false 0 0 false) b=some o:=fun b o e=>by rw[putB_ne _ _ (by have:=hzl b o e;omega)];exact e
 generalize putB z1 w₂.heap.size (.chan 0 #[] false 0 0 false)=z2 at hK eO hzO
 clear hzl
 generalize w₂.heap.size=cO at hK eO hzO hTO ⊢
 generalize ({ w₂.at d with heap:=w₂.heap.push (.chan 0 #[] false 0 0 false)}:World)=wO at hK ⊢
 clear d
 walk_nrm
 replace eT:=hzO _ _ eT
 refine hg_then (n:=100) hK ?_
 refine hk_alloc (n:=99) hK (.cells #[.chan none] 86) (fun x=> .pointer (some ⟨x,0,none⟩)) rfl rfl (by decide) (fun w1=>by go_simp) (fun w1=>by simp[go_sem]) (fun bO wbO hBO hlO hzbO hK=>?_)
 walk_nrm
 have hTbO:T<bO:=hzbO T _ eT
 have eb:=putB_self h3 bO (.cells #[.chan none] 86)
 have hmb:∀b o,h3 b=some o→putB h3 bO (.cells #[.chan none] 86) b=some o:=fun b o e=>by rw[putB_ne _ _ (by have:=hlO b o e;omega)];exact e
 have hbM:bM<bO:=hlO bM _ eM
 refine hk_store (n:=98) (off:=0) (v:= .chan (some cO)) hK eb rfl rfl (by decide) (fun w1 h1=>?_) (fun w1 h1=>?_) (fun w2 hK=>?_)
 ·have c0:=cell_of (o:=0) h1 rfl
  have f0:=thaw_of h1 0
  go_simp
 ·have c0:=cell_of (o:=0) h1 rfl
  have f0:=thaw_of h1 0
  simp[go_sem, *]
 have eBO:putB (putB h3 bO (.cells #[.chan none] 86)) bO (.cells (#[Value.chan none].setIfInBounds 0 (.chan (some cO))) 86) bO=some (.cells #[.chan (some cO)] 86):=putB_self _ _ _
 replace hmb:∀b o,h3 b=some o→putB (putB h3 bO (.cells #[.chan none] 86)) bO (.cells (#[Value.chan none].setIfInBounds 0 (.chan (some cO))) 86) b=some o:=fun b o e=>by rw[putB_ne _ _ (by have:=hlO b o e;omega)];exact hmb b o e
 clear eb
 generalize putB (putB h3 bO (.cells #[.chan none] 86)) bO (.cells (#[Value.chan none].setIfInBounds 0 (.chan (some cO))) 86)=h4 at hK eBO hmb
 walk_nrm
 refine goes_hg (n:=20) (m:=78) ?_
 repeat(first|u_c stepG_region_end RL hK|u_c stepG_seq RL hK|u_reg RL hK|u_cnd true RL hK|u_cnd false RL hK|u_c stepG_skip RL hK|u_op RL hK|u_skip RL hK)
 refine Goes.stop (fun w₁ h₁=>?_)
 replace hK:=RL hK h₁
 clear h₁
 refine HG.stop (fun w₅ h₅=>?_)
 replace hK:=RL hK h₅
 clear h₅
 refine wk_newv (.chan N #[] false 0 0 false) (fun x=> .chan (some x)) rfl rfl (by decide) (fun w1=>by have:=mkB_run N hN w1;go_simp) (fun w1=>by have:=mkB_ev N hN w1;simp[go_sem, *]) (fun d=>?_)
 have hzl:∀b o,z2 b=some o→b<w₅.heap.size:=fun b o e=>lt_of_some (hK.spec b o e)
 have hOB:cO<w₅.heap.size:=hzl cO _ eO
 replace hK:=hK.push (.chan N #[] false 0 0 false) d
 have eB:=putB_self z2 w₅.heap.size (.chan N #[] false 0 0 false)
 have hzB:∀b o,z2 b=some o→putB z2 w₅.heap.size (.chan N #[] false 0 0 false) b=some o:=fun b o e=>by rw[putB_ne _ _ (by have:=hzl b o e;omega)];exact e
 generalize putB z2 w₅.heap.size (.chan N #[] false 0 0 false)=z3 at hK eB hzB
 clear hzl
 generalize w₅.heap.size=cB at hK eB hzB hOB ⊢
 generalize ({ w₅.at d with heap:=w₅.heap.push (.chan N #[] false 0 0 false)}:World)=wB at hK ⊢
 clear d
 walk_nrm
 replace eT:=hzB _ _ eT
 replace eO:=hzB _ _ eO
 refine hg_then (n:=100) hK ?_
 refine hk_alloc (n:=99) hK (.cells #[.chan none] 87) (fun x=> .pointer (some ⟨x,0,none⟩)) rfl rfl (by decide) (fun w1=>by go_simp) (fun w1=>by simp[go_sem]) (fun bB wbB hBB hlB _ hK=>?_)
 walk_nrm
 have ebB:=putB_self h4 bB (.cells #[.chan none] 87)
 have hmB:∀b o,h4 b=some o→putB h4 bB (.cells #[.chan none] 87) b=some o:=fun b o e=>by rw[putB_ne _ _ (by have:=hlB b o e;omega)];exact e
 have hOBb:bO<bB:=hlB bO _ eBO
 refine hk_store (n:=98) (off:=0) (v:= .chan (some cB)) hK ebB rfl rfl (by decide) (fun w1 h1=>?_) (fun w1 h1=>?_) (fun w2 hK=>?_)
 ·have c0:=cell_of (o:=0) h1 rfl
  have f0:=thaw_of h1 0
  go_simp
 ·have c0:=cell_of (o:=0) h1 rfl
  have f0:=thaw_of h1 0
  simp[go_sem, *]
 have eBB:putB (putB h4 bB (.cells #[.chan none] 87)) bB (.cells (#[Value.chan none].setIfInBounds 0 (.chan (some cB))) 87) bB=some (.cells #[.chan (some cB)] 87):=putB_self _ _ _
 replace hmB:∀b o,h4 b=some o→putB (putB h4 bB (.cells #[.chan none] 87)) bB (.cells (#[Value.chan none].setIfInBounds 0 (.chan (some cB))) 87) b=some o:=fun b o e=>by rw[putB_ne _ _ (by have:=hlB b o e;omega)];exact hmB b o e
 clear ebB
 generalize putB (putB h4 bB (.cells #[.chan none] 87)) bB (.cells (#[Value.chan none].setIfInBounds 0 (.chan (some cB))) 87)=h5 at hK eBB hmB
 walk_nrm
 refine goes_hg (n:=20) (m:=78) ?_
 repeat(first|u_c stepG_region_end RL hK|u_c stepG_seq RL hK|u_reg RL hK|u_cnd true RL hK|u_cnd false RL hK|u_c stepG_skip RL hK|u_op RL hK|u_skip RL hK)
 refine Goes.stop (fun w₁ h₁=>?_)
 replace hK:=RL hK h₁
 clear h₁
 refine HG.stop (fun w₆ h₆=>?_)
 replace hK:=RL hK h₆
 clear h₆
 refine wk_newv (.cells #[.int .u64 0,.int .u32 0] 94) (fun x=> .pointer (some ⟨x,0,none⟩)) rfl rfl (by decide) (fun w1=>by go_simp) (fun w1=>by simp[go_sem]) (fun d=>?_)
 have hzl:∀b o,z3 b=some o→b<w₆.heap.size:=fun b o e=>lt_of_some (hK.spec b o e)
 replace hK:=hK.push (.cells #[.int .u64 0,.int .u32 0] 94) d
 have eW:=putB_self z3 w₆.heap.size (.cells #[.int .u64 0,.int .u32 0] 94)
 have hzW:∀b o,z3 b=some o→putB z3 w₆.heap.size (.cells #[.int .u64 0,.int .u32 0] 94) b=some o:=fun b o e=>by rw[putB_ne _ _ (by have:=hzl b o e;omega)];exact e
 generalize putB z3 w₆.heap.size (.cells #[.int .u64 0,.int .u32 0] 94)=z4 at hK eW hzW
 have hBW:cB<w₆.heap.size:=hzl cB _ eB
 clear hzl
 generalize w₆.heap.size=Wg at hK eW hzW hBW ⊢
 generalize ({ w₆.at d with heap:=w₆.heap.push (.cells #[.int .u64 0,.int .u32 0] 94)}:World)=wW at hK ⊢
 clear d
 walk_nrm
 replace eT:=hzW _ _ eT
 replace eO:=hzW _ _ eO
 replace eB:=hzW _ _ eB
 refine hg_then (n:=100) hK ?_
 refine goes_hg (n:=30) (m:=70) ?_
 repeat(first|u_c stepG_region_end RL hK|u_c stepG_seq RL hK|u_reg RL hK|u_cnd true RL hK|u_cnd false RL hK|u_c stepG_skip RL hK|u_op RL hK|u_skip RL hK)
 u_c stepG_block RL hK
 u_c stepG_loop RL hK
 refine Goes.stop (fun w₁ h₁=>?_)
 replace hK:=RL hK h₁
 clear h₁
 refine HG.stop (fun w₇ h₇=>?_)
 replace hK:=RL hK h₇
 clear h₇
 have u5:∀b o,h2 b=some o→h5 b=some o:=fun b o e=>hmB _ _ (hmb _ _ (hmM _ _ e))
 refine hNx b6 b7 b8 T bM cO bO cB bB Wg g0 bw h5 z4 _ w₇ _ ⟨fun b o e=>u5 _ _ (g1 b o e),u5 _ _ e6,u5 _ _ e7,u5 _ _ e8,hmB _ _ (hmb _ _ eM),hmB _ _ eBO,eBB,eT,eO,eB,eW,⟨hBT,hTO,hOB,hBW⟩,⟨hB6,hB7,hB8,hBM,hBO,hTbO,hOBb⟩,⟨w₃.heap.size,V1,hBW3,hw,fun b c t e1 e2=>u5 _ _ (hmW b c t e1 e2)⟩⟩ hK (fun b hb=>?_) (fun b hb=>Or.inl (Or.inl (Or.inl (Or.inl (Or.inl (Or.inl (Or.inl (Or.inl hb)))))))) (fun bx er ls kk am rd=>⟨_,_,_,_,_,_,_,_,_,_,_,_,_,_,_,_,_,_,_,_,_,_,_,_,_,_,_,_,_,_,_,_,_,_,_,_,_,_,_,_,_,_,_,_,_,_,_,_,_,_,_,_,_,_,_,_,rfl⟩)
 rcases hb with((hb|rfl)|rfl)|rfl
 ·rcases hb with hb|hb
  ·rcases hb with hb|hb
   ·rcases hb with((hb|rfl)|rfl)|rfl
    ·exact Or.inl hb
    ·exact Or.inr hB6
    ·exact Or.inr hB7
    ·exact Or.inr hB8
   ·exact Or.inr (Nat.le_trans hBc1 hb.1)
  ·exact Or.inr (Nat.le_trans hBW3 hb.1)
 ·exact Or.inr hBM
 ·exact Or.inr hBO
 ·exact Or.inr hBB
end
end
section
open Go.Conc Go.RowKit Go.ConcR.Gen
open Go.ConcN.Gen
section
variable {Stop:(Nat→Prop)→Goroutine→World→Prop}{O:Nat→Prop}{w:World}{h z:Nat→Option Obj}{B:Nat}{c:Frame}{cs:List Frame}{q k:Int}{xo:Option Addr}{n cx:Nat}{ms ns:Value}{hs N b6 b7 b8 T g0 bg:Nat}{x y:Int}
set_option maxRecDepth 100000 in
set_option maxHeartbeats 16000000 in
theorem run_end(hK:Kp B h z O w)(hT:h T=some (.cells #[.int .i64 x,.int .i64 y] 62))
  (hN:∀w',Kp B h z O w'→Wk Tryz.prog Stop O (G (c.finish (.tuple #[.slice (some ⟨bg,0,none⟩) N N,.int .i64 x,.int .i64 y,.int .i64 0])) cs) w') :
  Wk Tryz.prog Stop O (G (((luFx Tryz.f9) q k xo n cx ms ns hs b6 b7 b8 T g0 N).finish (.slice (some ⟨bg,0,none⟩) N N)) (c::cs)) w:=by
 have RL:∀ {O:Nat→Prop} {h z:Nat→Option Obj} {w w1:World},Kp B h z O w→Rly noB (LvZ z) O w w1→Kp B h z O w1:=fun hK r=>hK.rely r
 unfold luFx
 rw[Frame.finish_at]
 simp only[luR7x,luCx,seqTl,Tryz.f9]
 walk_nrm
 refine hg_then (n:=100) hK ?_
 refine goes_hg (n:=30) (m:=70) ?_
 repeat(first|u_c stepG_region_end RL hK|u_c stepG_seq RL hK|u_reg RL hK|u_cnd true RL hK|u_cnd false RL hK|u_c stepG_skip RL hK|u_op RL hK|u_skip RL hK)
 refine Goes.stop (fun w₁ h₁=>?_)
 replace hK:=RL hK h₁
 clear h₁
 refine hg_call (n:=69) (f:=30) (vs := #[.pointer (some ⟨T,0,none⟩)]) rfl rfl (by decide) rfl Tryz.func30 (by kernel_rfl) (by kernel_rfl) (by go_simp) ?_
 rw[enter_at _ Tryz.func30 rfl]
 walk_nrmf Tryz.f30
 refine goes_hg (n:=30) (m:=39) ?_
 repeat(first|u_c stepG_region_end RL hK|u_c stepG_seq RL hK|u_reg RL hK|u_cnd true RL hK|u_cnd false RL hK|u_c stepG_skip RL hK|u_op RL hK|u_skip RL hK)
 refine Goes.stop (fun w₁ h₁=>?_)
 replace hK:=RL hK h₁
 clear h₁
 refine HG.stop (fun w₂ h₂=>?_)
 replace hK:=RL hK h₂
 clear h₂
 refine Wk.mk rfl fun d=>⟨_,w₂.at d,_,O,stepG_load_atomic (v:=x) rfl rfl (by decide) rfl Tryz.func57 (by kernel_rfl) (by kernel_rfl) (by kernel_rfl) .i64 (by kernel_rfl) rfl (show(w₂.at d).cell? ⟨T,0,none⟩=some (.int .i64 x)from hK.cell hT rfl),⟨rfl,rfl,rfl,Nat.le_refl _,fun _ _ _=>rfl,fun _ h=>h,fun _ h=>Or.inl h,fun e he=>?_⟩,Wk.at ?_ d⟩
 ·have he:e=⟨.cell ⟨T,0,none⟩,false,true⟩:=by simpa using he
  subst he
  exact⟨hK.ltH hT,hK.own T _ hT⟩
 walk_nrm
 refine hg_then (n:=100) hK ?_
 refine goes_hg (n:=30) (m:=70) ?_
 repeat(first|u_c stepG_region_end RL hK|u_c stepG_seq RL hK|u_reg RL hK|u_cnd true RL hK|u_cnd false RL hK|u_c stepG_skip RL hK|u_op RL hK|u_skip RL hK)
 u_c stepG_ret' RL hK
 u_leave1 Tryz.func30 RL hK
 repeat(first|u_c stepG_region_end RL hK|u_c stepG_seq RL hK|u_reg RL hK|u_cnd true RL hK|u_cnd false RL hK|u_c stepG_skip RL hK|u_op RL hK|u_skip RL hK)
 refine Goes.stop (fun w₁ h₁=>?_)
 replace hK:=RL hK h₁
 clear h₁
 refine hg_call (n:=69) (f:=30) (vs := #[.pointer (some ⟨T,1,none⟩)]) rfl rfl (by decide) rfl Tryz.func30 (by kernel_rfl) (by kernel_rfl) (by go_simp) ?_
 rw[enter_at _ Tryz.func30 rfl]
 walk_nrmf Tryz.f30
 refine goes_hg (n:=30) (m:=39) ?_
 repeat(first|u_c stepG_region_end RL hK|u_c stepG_seq RL hK|u_reg RL hK|u_cnd true RL hK|u_cnd false RL hK|u_c stepG_skip RL hK|u_op RL hK|u_skip RL hK)
 refine Goes.stop (fun w₁ h₁=>?_)
 replace hK:=RL hK h₁
 clear h₁
 refine HG.stop (fun w₂ h₂=>?_)
 replace hK:=RL hK h₂
 clear h₂
 refine Wk.mk rfl fun d=>⟨_,w₂.at d,_,O,stepG_load_atomic (v:=y) rfl rfl (by decide) rfl Tryz.func57 (by kernel_rfl) (by kernel_rfl) (by kernel_rfl) .i64 (by kernel_rfl) rfl (show(w₂.at d).cell? ⟨T,1,none⟩=some (.int .i64 y)from hK.cell hT rfl),⟨rfl,rfl,rfl,Nat.le_refl _,fun _ _ _=>rfl,fun _ h=>h,fun _ h=>Or.inl h,fun e he=>?_⟩,Wk.at ?_ d⟩
 ·have he:e=⟨.cell ⟨T,1,none⟩,false,true⟩:=by simpa using he
  subst he
  exact⟨hK.ltH hT,hK.own T _ hT⟩
 walk_nrm
 refine hg_then (n:=100) hK ?_
 refine goes_hg (n:=50) (m:=50) ?_
 repeat(first|u_c stepG_region_end RL hK|u_c stepG_seq RL hK|u_reg RL hK|u_cnd true RL hK|u_cnd false RL hK|u_c stepG_skip RL hK|u_op RL hK|u_skip RL hK)
 u_c stepG_ret' RL hK
 u_leave1 Tryz.func30 RL hK
 repeat(first|u_c stepG_region_end RL hK|u_c stepG_seq RL hK|u_reg RL hK|u_cnd true RL hK|u_cnd false RL hK|u_c stepG_skip RL hK|u_op RL hK|u_skip RL hK)
 u_c stepG_ret' RL hK
 refine Goes.stop (fun w₁ h₁=>?_)
 replace hK:=RL hK h₁
 clear h₁
 refine hg_leave (n:=49) (fn:=Tryz.f9) (.tuple #[.slice (some ⟨bg,0,none⟩) N N,.int .i64 x,.int .i64 y,.int .i64 0]) rfl rfl Tryz.func9 (fun w1=>by simp only[Tryz.f9,results];go_simp) (fun w1=>by simp only[Tryz.f9];simp[go_sem,results]) ?_
 refine HG.stop (fun w₃ h₃=>?_)
 exact hN w₃ (RL hK h₃)
end
end
section
open Go.RowKit Go.Sort
open Go.Conc
structure WOut(D:FD)(n k N:Nat)(c:Nat→Nat)(y:Nat→Nat→Int)(m:Nat→Nat)(c' y' am:Nat→Nat→Nat)(er:Nat→Nat)(ls:Nat→Bool):Prop where
 hrd:∀i,i<N→Heard D n c (y i) (m i) (c' i) (y' i)
 out:∀i,i<N→(ls i=false∧NearH D (m i) k (c' i) (y' i) (am i)∧er i=ofs D k (m i) (c' i) (y' i) (am i))∨(ls i=true∧(∀a, ¬NearH D (m i) k (c' i) (y' i) a)∧er i=0)
 few:∀i,er i≤1000
theorem ofs_le(D:FD)(k m:Nat)(c y a:Nat→Nat):ofs D k m c y a≤m:=by
 unfold ofs
 have:=ct_not (fun i=>decide (D.ev a (c i) k=y i)) m
 omega
theorem words_out {D:FD}{n k N:Nat}{c:Nat→Nat}{y:Nat→Nat→Int}(hn:n≤64)(hc:∀i,i<n→c i<D.q)(hne:∀i j,i<n→j<n→i≠j→c i≠c j)(hy:∀i j,i<N→j<n→y i j = -1∨(0≤y i j∧y i j<(D.q:Int))):∃m c' y' am er ls,WOut D n k N c y m c' y' am er ls:=by
 have key:∀i, ∃(r:Nat×(Nat→Nat)×(Nat→Nat)×(Nat→Nat)×Nat×Bool),(i<N→Heard D n c (y i) r.1 r.2.1 r.2.2.1)∧(i<N→(r.2.2.2.2.2=false∧NearH D r.1 k r.2.1 r.2.2.1 r.2.2.2.1∧r.2.2.2.2.1=ofs D k r.1 r.2.1 r.2.2.1 r.2.2.2.1)∨(r.2.2.2.2.2=true∧(∀a, ¬NearH D r.1 k r.2.1 r.2.2.1 a)∧r.2.2.2.2.1=0))∧r.2.2.2.2.1≤1000:=by
  intro i
  by_cases hi:i<N
  ·obtain⟨m, c', y', hH⟩:=heard_ex (D:=D) (y:=y i) hc hne (fun j hj=>by
    rcases hy i j hi hj with e|⟨e1,e2⟩
    ·exact Or.inl e
    ·refine Or.inr ?_
     have e3:y i j=(((y i j).toNat:Nat):Int):=by omega
     rw[e3]
     exact has_of_lt (by omega))
   by_cases hN:∃a,NearH D m k c' y' a
   ·obtain⟨a,ha⟩:=hN
    have h1:=ofs_le D k m c' y' a
    have h2:=hH.le
    exact⟨(m,c',y',a,ofs D k m c' y' a,false),fun _=>hH,fun _=>Or.inl ⟨rfl,ha,rfl⟩,by show ofs D k m c' y' a≤1000;omega⟩
   ·exact⟨(m,c',y',c',0,true),fun _=>hH,fun _=>Or.inr ⟨rfl,fun a ha=>hN ⟨a,ha⟩,rfl⟩,by show(0:Nat)≤1000;omega⟩
  ·exact⟨(0,c,c,c,0,true),fun h=>absurd h hi,fun h=>absurd h hi,by show(0:Nat)≤1000;omega⟩
 have hk:=fun i=>Classical.choose_spec (key i)
 exact⟨fun i=>(Classical.choose (key i)).1,fun i=>(Classical.choose (key i)).2.1,fun i=>(Classical.choose (key i)).2.2.1,fun i=>(Classical.choose (key i)).2.2.2.1,fun i=>(Classical.choose (key i)).2.2.2.2.1,fun i=>(Classical.choose (key i)).2.2.2.2.2,fun i hi=>(hk i).1 hi,fun i hi=>(hk i).2.1 hi,fun i=>(hk i).2.2⟩
theorem wchk_of {D:FD}{n k:Nat}{c:Nat→Nat}{y:Nat→Int}(hn1:1≤n)(hn:n≤64)(hk1:1≤k)(hk:k≤n)(hc:∀i,i<n→c i<D.q)(hne:∀i j,i<n→j<n→i≠j→c i≠c j)(hy:∀j,j<n→y j = -1∨(0≤y j∧y j<(D.q:Int))):D.wchk n (fun j=>((c j:Nat):Int)) (k:Nat) n y=0:=by
 refine wchk_fine hn1 hn hk1 hk hc hne ?_
 unfold FD.allW
 rw[anyB_no n (fun j hj=>?_)];rfl
 have:D.wok (y j)=true:=by
  unfold FD.wok
  rcases hy j hj with e|⟨e1,e2⟩
  ·rw[e];rfl
  ·have e3:y j=(((y j).toNat:Nat):Int):=by omega
   rw[e3,has_of_lt (by omega)]
   simp
 rw[this];rfl
def rdL(hE:Nat→Option Obj)(b:Nat):Prop:=∃o,hE b=some o
section
variable {D:FD}{n cx k N hs bx ox mc nc:Nat}{c:Nat→Nat}{y:Nat→Nat→Int}{m:Nat→Nat}{c' y' am:Nat→Nat→Nat}{er:Nat→Nat}{ls:Nat→Bool}{B:Nat}{h hE zE:Nat→Option Obj}{O:Nat→Prop}{w:World}{b6 b7 b8 T bM cO bO cB bB Wg g0:Nat}{bw:Nat→Nat}{fc:Frame}{cs:List Frame}
theorem okk_of(hW:WOut D n k N c y m c' y' am er ls)(hD:D∈fieldsL)(hn1:1≤n)(hn:n≤64)(hk1:1≤k)(hk:k≤n)(hc:∀i, i<n→c i<D.q)(hne:∀i j, i<n→j<n→i≠j→c i≠c j)(hy:∀i j, i<N→j<n→y i j = -1∨(0≤y i j∧y i j<(D.q:Int)))(hN:N≤900)
  (hArg:∀wx,(∀b o,h b=some o→wx.heap[b]?=some o)→Arg (some ⟨bx,ox,none⟩) n cx (fun j=>((c j:Nat):Int)) wx) (hib:∃cs t,h bx=some (.cells cs t)∧∀x,x∈cs→NoB x) (hB:∀b o,h b=some o→b<B)
  (hR:RnD B h (D.q:Nat) (k:Nat) (some ⟨bx,ox,none⟩) n cx N y b6 b7 b8 T bM cO bO cB bB Wg g0 bw hE zE) (hK:Kp B hE zE O w) (nb p0:Nat) :
  (DlP.at ⟨rnP (D.q:Nat) (k:Nat) (some ⟨bx,ox,none⟩) n cx N hs b6 b7 b8 T bM cO bO cB bB Wg bx bw er ls k am (rdL hE),g0,N,(hs:Nat),fc,cs⟩ nb p0 w).Okk 3 ∧
   LnW (DlP.at ⟨rnP (D.q:Nat) (k:Nat) (some ⟨bx,ox,none⟩) n cx N hs b6 b7 b8 T bM cO bO cB bB Wg bx bw er ls k am (rdL hE),g0,N,(hs:Nat),fc,cs⟩ nb p0 w).p D n cx k bx ox c bw y m c' y' am:=by
 obtain⟨B',V,hBB,hwr,hVE⟩:=hR.wr
 have hin:∀b o,hE b=some o→w.heap[b]?=some o:=hK.mem
 have hout:RowF g0 N 22 (fun i=>if i<N then .slice (some ⟨bw i,0,none⟩) n n else .slice none 0 0) w:=by
  obtain⟨cs,h1,h2,h3⟩:=hwr.out
  exact⟨cs,hin _ _ (hVE _ _ _ hwr.ge h1),h2,h3⟩
 have hrow:∀i,i<N→RowI (bw i) n (y i) w:=fun i hi=>by
  obtain⟨f,⟨cs,h1,h2,h3⟩,h4⟩:=hwr.row i hi
  exact⟨f,⟨cs,hin _ _ (hVE _ _ _ (hwr.gb i hi).1 h1),h2,h3⟩,h4⟩
 have r0:rdL hE g0:=by
  obtain⟨cs,h1,h2,h3⟩:=hwr.out
  exact⟨_,hVE _ _ _ hwr.ge h1⟩
 have rx:rdL hE bx:=by
  obtain⟨cs,t,h1,_⟩:=hib
  exact⟨_,hR.old _ _ h1⟩
 have rww:∀i,i<N→rdL hE (bw i):=fun i hi=>by
  obtain⟨f,⟨cs,h1,h2,h3⟩,h4⟩:=hwr.row i hi
  exact⟨_,hVE _ _ _ (hwr.gb i hi).1 h1⟩
 have hlt:∀b,rdL hE b→b<w.heap.size:=fun b hb=>by
  obtain⟨o,e⟩:=hb
  exact hK.ltH e
 have hnz:∀b o,zE b=some o→¬rdL hE b:=fun b o e hb=>by
  obtain⟨o',e'⟩:=hb
  exact hK.off b o e (hK.own b o' e')
 have hLW:LnW (DlP.at ⟨rnP (D.q:Nat) (k:Nat) (some ⟨bx,ox,none⟩) n cx N hs b6 b7 b8 T bM cO bO cB bB Wg bx bw er ls k am (rdL hE),g0,N,(hs:Nat),fc,cs⟩ nb p0 w).p D n cx k bx ox c bw y m c' y' am:=by
  have hbx:bx<B:=by obtain⟨cs,t,h1,_⟩:=hib;exact hB _ _ h1
  exact {
   hD:=hD,n64:=hn,k1:=hk1,kn:=hk,q:=rfl,kk:=rfl,xs:=rfl
   X:=hArg w fun b o e=>hin b o (hR.old b o e)
   wo:=fun i hi=>⟨rfl,rfl⟩
   Y:=fun i hi=>(hrow i hi).arg (by omega) (Nat.le_refl n) (by show n≤9223372036854775807;omega)
   ib:=by
    obtain⟨cs,t,h1,h2⟩:=hib
    exact⟨cs,t,hin _ _ (hR.old _ _ h1),h2⟩
   iw:=fun i hi=>⟨by
    obtain⟨cs,h1,h2⟩:=(hrow i hi).plain
    exact⟨cs,_,h1,h2⟩,by
    have:=(hwr.gb i hi).1
    omega⟩
   rx:=rx
   rw:=rww
   chk:=fun i hi=>wchk_of hn1 hn hk1 hk hc hne (fun j hj=>hy i j hi hj)
   hrd:=hW.hrd
   out:=hW.out
   GM:=rfl
   Qm:=fun i b=>Iff.rfl
   F:=rfl }
 have cellE:∀ {b:Nat} {cs:Array Value} {t:TypeId} {v:Value} {o:Nat},hE b=some (.cells cs t)→cs[o]?=some v→w.cell? ⟨b,o,none⟩=some v:=fun e hv=>hK.cell e hv
 have sameC:∀ {w1:World} {b:Nat},rdL hE b→(∀b,rdL hE b→w1.heap[b]?=w.heap[b]?)→∀o,w1.cell? ⟨b,o,none⟩=w.cell? ⟨b,o,none⟩:=fun hb hr o=>cell_sam0 (hr _ hb) o
 refine⟨⟨⟨ln_ok hLW ⟨cellE hR.eO rfl, cellE hR.eB rfl, cellE hR.eM rfl, ⟨_, hR.eO⟩, ⟨_, hR.eB⟩, ⟨_, hR.eM⟩, hlt⟩
   ⟨⟨_,hR.e6⟩,⟨_,hR.e7⟩,⟨_,hR.e8⟩,fun w1 h1=>(sameC ⟨_,hR.e6⟩ h1 0).trans (cellE hR.e6 rfl),fun w1 h1=>(sameC ⟨_,hR.e7⟩ h1 0).trans (cellE hR.e7 rfl),fun w1 h1=>(sameC ⟨_,hR.e8⟩ h1 0).trans (cellE hR.e8 rfl)⟩
   hR.lb.2.2.2.2.2.1 (hnz T _ hR.zT) hW.few,r0,fun w1 i h1 hi=>?_,by show N<1000000;omega,Nat.le_refl N,rfl,rfl,rfl,rfl,rfl⟩,hnz cO _ hR.zO,hnz cB _ hR.zB,hnz Wg _ hR.zW,?_,?_⟩,hLW⟩
 ·refine(sameC r0 h1 i).trans ?_
  have hi:i<N:=hi
  have:=hout.cell i hi
  rw[if_pos hi]at this
  exact this
 ·show cO≠Wg
  have:=hR.lT
  omega
 ·show cB≠Wg
  have:=hR.lT
  omega
end
end
section
open Go.RowKit Go.Sort
open Go.Conc
open Go.ConcR (WgAt)
open Go.ConcN (sumTo)
section
variable {P:Program}{Stop:(Nat→Prop)→Goroutine→World→Prop}{D:FD}{n cx k N hs bx ox:Nat}{c:Nat→Nat}{y:Nat→Nat→Int}{B:Nat}{h z:Nat→Option Obj}{O:Nat→Prop}{w:World}{fc:Frame}{cs:List Frame}{ms ns:Value}{Post:Value→World→Prop}{Sh0:Nat→Prop}
theorem Kp.at(hK:Kp B h z O w)(d:Nat):Kp B h z O (w.at d):=⟨hK.mem,hK.own,hK.size,hK.spec,hK.off,hK.lt⟩
theorem beside_seen {g:Goroutine}(hb:Beside0 P Post Sh0 O (fun w t=>∀op,op∈t→LowT w.heap.size op.act) g w):Beside0 P Post Sh0 O (fun _ _=>True) g w:=fun gs sl t q h0 hL hP hO hS _=>hb gs sl t q h0 hL hP hO hS hP.seen
theorem GmG.low {lo lo':Nat}(h:lo'≤lo){ls:Nat→Bool}{er:Nat→Nat}{am:Nat→Nat→Nat}{i:Nat}{v:Value}{w w1:World}(hk:∀b,MvF v b→w1.heap[b]?=w.heap[b]?)(hg:GmG lo ls er k am i v w):GmG lo' ls er k am i v w1∧∀b,MvF v b→lo<b:=by
 obtain⟨go,gc,rfl,h1,h2⟩:=hg
 refine⟨⟨go,gc,rfl,h1,fun hl=>?_⟩,fun b hb=>?_⟩
 ·obtain⟨q1,q2,g,cs,rfl,q0,q3,q4,q5⟩:=h2 hl
  exact⟨q1,q2,g,cs,rfl,by omega,(hk g ⟨_,_,_,_,_,rfl,rfl⟩).trans q3,q4,q5⟩
 ·obtain⟨a,gn,gc',x,y,e,rfl⟩:=hb
  simp at e
  obtain⟨⟨rfl,_⟩,_⟩:=e
  cases hl:ls i with
  | true=>have:=(h1 hl).1;cases this
  | false=>
   obtain⟨_,_,g,cs,e,q0,_⟩:=h2 hl
   cases e
   exact q0
theorem kp_all(S:Nat→Prop)(w1:World):∃h1:Nat→Option Obj,(∀b,S b→h1 b=w1.heap[b]?)∧Kp w1.heap.size h1 (fun _=>none) (fun b=>b<w1.heap.size∧S b) w1:=by
 classical
 refine⟨fun b=>if b<w1.heap.size∧S b then w1.heap[b]? else none,fun b hb=>?_,⟨fun b o e=>?_,fun b o e=>?_,Nat.le_refl _,fun b o e=>by simp at e,fun b o e=>by simp at e,fun b hb=>hb.1⟩⟩
 ·by_cases hl:b<w1.heap.size
  ·exact if_pos ⟨hl,hb⟩
  ·refine(if_neg fun c=>hl c.1).trans ?_
   rw[Array.getElem?_eq_none (by omega)]
 ·by_cases c:b<w1.heap.size∧S b
  ·exact(if_pos c).symm.trans e
  ·have e':none=some o:=(if_neg c).symm.trans e
   cases e'
 ·by_cases c:b<w1.heap.size∧S b
  ·exact c
  ·have e':none=some o:=(if_neg c).symm.trans e
   cases e'
structure RnE(D:FD)(n k N:Nat)(c:Nat→Nat)(y:Nat→Nat→Int)(h:Nat→Option Obj)(Sh0:Nat→Prop)(Wg bg:Nat)(m:Nat→Nat)(c' y' am:Nat→Nat→Nat)(er:Nat→Nat)(ls:Nat→Bool)(tk:Nat→Option Value)(w w1:World):Prop where
 out:WOut D n k N c y m c' y' am er ls
 got:w1.heap[bg]?=some (.cells (gotA N tk) 39)
 all:∀i,i<N→∃v,tk i=some v∧GmG w.heap.size ls er k am i v w1∧∀b,MvF v b→b<w1.heap.size∧¬(Sh0 b∨b=Wg)
 old:∀b o,h b=some o→w1.heap[b]?=some o
 fix:w1.tape=w.tape∧w1.os=w.os∧w1.output=w.output
 bgn:bg<w1.heap.size∧¬(Sh0 bg∨bg=Wg)
 bgl:w.heap.size≤bg
 wgn:w.heap.size≤Wg∧Wg<w1.heap.size
 size:w.heap.size≤w1.heap.size
theorem run_co(hD:D∈fieldsL)(hn1:1≤n)(hn:n≤64)(hk1:1≤k)(hk:k≤n)(hc:∀i, i<n→c i<D.q)(hne:∀i j, i<n→j<n→i≠j→c i≠c j)(hy:∀i j, i<N→j<n→y i j = -1∨(0≤y i j∧y i j<(D.q:Int)))(hN:N≤900)(hs1:1≤hs)(hs8:hs≤8)
  (hK:Kp w.heap.size h (fun _=>none) O w) (hArg:∀wx,(∀b o,h b=some o→wx.heap[b]?=some o)→Arg (some ⟨bx,ox,none⟩) n cx (fun j=>((c j:Nat):Int)) wx) (hib:∃cs t,h bx=some (.cells cs t)∧∀x,x∈cs→NoB x)
  (hSee:∀W:World,(∀b o,h b=some o→W.heap[b]?=some o)→RunSee h (D.q:Nat) (k:Nat) (some ⟨bx,ox,none⟩) n cx ms ns N y W)
  (hOs:∀b,O b→¬Sh0 b) (hSb:∀b,Sh0 b→b<w.heap.size)
  (hkk:∀Wg bg m c' y' am er ls tk w1,RnE D n k N c y h Sh0 Wg bg m c' y' am er ls tk w w1→Beside0 Tryz.prog Post (fun b=>Sh0 b∨b=Wg) (fun b=>b<w1.heap.size∧¬(Sh0 b∨b=Wg)) (fun _ _=>True) (G (fc.finish (.tuple #[.slice (some ⟨bg,0,none⟩) N N,.int .i64 (sumTo N er:Nat),.int .i64 (sumTo N (fun i=>if ls i then 1 else 0):Nat),.int .i64 0])) cs) w1) :
  Beside0 Tryz.prog Post Sh0 O (fun _ _=>True) (G (Frame.enter Tryz.prog 9 #[.int .i64 (D.q:Nat),.slice (some ⟨bx,ox,none⟩) n cx,.int .i64 (k:Nat),ms,ns,.int .i64 (hs:Nat)] .normal) (fc::cs)) w:=by
 refine beside_seen ?_
 obtain⟨m,c',y',am,er,ls,hW⟩:=words_out (k:=k) hn hc hne hy
 have hB:∀b o,h b=some o→b<w.heap.size:=fun b o e=>hK.ltH e
 refine beside_walk (S1:=fun O' w' t=>(∀op,op∈t→TchS (fun b=>b<w.heap.size∨O' b) op.act)∧(w'.tape=w.tape∧w'.os=w.os∧w'.output=w.output)∧w.heap.size≤w'.heap.size)
  (Stop:=fun O' g w'=>∃(b6 b7 b8 T bM cO bO cB bB Wg g0:Nat) (bw:Nat→Nat) (hE zE:Nat→Option Obj) (fr:Frame),RnD w.heap.size h (D.q:Nat) (k:Nat) (some ⟨bx,ox,none⟩) n cx N y b6 b7 b8 T bM cO bO cB bB Wg g0 bw hE zE∧Kp w.heap.size hE zE O' w'∧(∀b,O' b→O b∨w.heap.size≤b)∧
   (∀bx' er ls kk am rd,DlS ⟨rnP (D.q:Nat) (k:Nat) (some ⟨bx,ox,none⟩) n cx N hs b6 b7 b8 T bM cO bO cB bB Wg bx' bw er ls kk am rd,g0,N,(hs:Nat),(luFx Tryz.f9) (D.q:Nat) (k:Nat) (some ⟨bx,ox,none⟩) n cx ms ns hs b6 b7 b8 T g0 N,fc::cs⟩ 0 fr)∧g=G fr ((luFx Tryz.f9) (D.q:Nat) (k:Nat) (some ⟨bx,ox,none⟩) n cx ms ns hs b6 b7 b8 T g0 N::fc::cs))
  (run_wk hK hs1 hs8 hN hSee fun b6 b7 b8 T bM cO bO cB bB Wg g0 bw hE zE O' w' fr hR hK' hO1 hO2 hfr=>Wk.stop fun d=>⟨b6,b7,b8,T,bM,cO,bO,cB,bB,Wg,g0,bw,hE,zE,fr,hR,hK'.at d,hO1,hfr,rfl⟩)
  (fun O' w' t t' hs hf=>⟨hf.tch _ hs,⟨hf.tape,hf.os,hf.out⟩,hf.size⟩) (fun O' g' w' hst=>?_)
 intro gs sl t q h0 hL hP hOx hSh hS1
 obtain⟨hT,hfix,hsz⟩:=hS1
 obtain⟨b6,b7,b8,T,bM,cO,bO,cB,bB,Wg,g0,bw,hE,zE,fr,hR,hK',hO1,hfr,rfl⟩:=hst w'.drawn
 replace hK':Kp w.heap.size hE zE O' w':=hK'
 have hokw:=okk_of (hs:=hs) (fc:=(luFx Tryz.f9) (D.q:Nat) (k:Nat) (some ⟨bx,ox,none⟩) n cx ms ns hs b6 b7 b8 T g0 N) (cs:=fc::cs) hW hD hn1 hn hk1 hk hc hne hy hN hArg hib hB hR hK'
 have hsp:∀b,zE b=none∨¬O' b:=fun b=>by
  cases e:zE b with
  | none=>exact Or.inl rfl
  | some o=>exact Or.inr (hK'.off b o e)
 have spO:∀b,SpF (LnP.Kx (rnP (D.q:Nat) (k:Nat) (some ⟨bx,ox,none⟩) n cx N hs b6 b7 b8 T bM cO bO cB bB Wg bx bw er ls k am (rdL hE)) Tryz.prog) b→¬O' b∧w.heap.size≤b:=by
  have hl:=hR.lT
  rintro b (e|e|e|e)
  ·replace e:b=Wg:=e
   exact⟨e▸hK'.off Wg _ hR.zW,by omega⟩
  ·replace e:b=T:=e
   exact⟨e▸hK'.off T _ hR.zT,by omega⟩
  ·replace e:b=cO:=e
   exact⟨e▸hK'.off cO _ hR.zO,by omega⟩
  ·replace e:b=cB:=e
   exact⟨e▸hK'.off cB _ hR.zB,by omega⟩
 have nSh:∀b,w.heap.size≤b→¬Sh0 b:=fun b hb hs=>by have:=hSb b hs;omega
 have hlb:=hR.lb
 have hlT:=hR.lT
 refine deal_co (d:=⟨rnP (D.q:Nat) (k:Nat) (some ⟨bx,ox,none⟩) n cx N hs b6 b7 b8 T bM cO bO cB bB Wg bx bw er ls k am (rdL hE),g0,N,(hs:Nat),(luFx Tryz.f9) (D.q:Nat) (k:Nat) (some ⟨bx,ox,none⟩) n cx ms ns hs b6 b7 b8 T g0 N,fc::cs⟩)
  (fun nb p0=>(hokw nb p0).1) (fun nb p0=>(hokw nb p0).2) (by show bO≠bB;omega) (by show cO≠cB;omega) hN (by show hs<1000000;omega) hs1 (hfr _ _ _ _ _ _) (fun b hb=>?_) (hK'.spec _ _ hR.zW) (hK'.spec _ _ hR.zT) (hK'.spec _ _ hR.zO) (hK'.spec _ _ hR.zB) (fun b hb=>by show b<bO;have:=hSb b hb;omega) (fun tk bg w1 hE1=>?_) gs sl t q h0 hL hP hOx hSh (fun op hop y hy b hb=>?_)
 ·obtain⟨o,e⟩:=hb
  have ho:=hK'.own b o e
  refine⟨hK'.ltH e,fun hs=>?_,fun hs=>(spO b hs).1 ho⟩
  rcases hO1 b ho with c|c
  ·exact hOs b c hs
  ·exact nSh b c hs
 ·show Beside0 Tryz.prog Post (fun b=>Sh0 b∨b=Wg) (fun b=>b<w1.heap.size∧¬(Sh0 b∨b=Wg)) (fun _ _=>True) (G (((luFx Tryz.f9) (D.q:Nat) (k:Nat) (some ⟨bx,ox,none⟩) n cx ms ns hs b6 b7 b8 T g0 N).finish (.slice (some ⟨bg,0,none⟩) N N)) (fc::cs)) w1
  have hall:∀i,i<N→∃v,tk i=some v∧GmG bO ls er k am i v w1∧∀b,MvF v b→b<w1.heap.size∧¬SpF (LnP.Kx (rnP (D.q:Nat) (k:Nat) (some ⟨bx,ox,none⟩) n cx N hs b6 b7 b8 T bM cO bO cB bB Wg bx bw er ls k am (rdL hE)) Tryz.prog) b:=hE1.all
  have hbf:bO<bg:=hE1.bgf
  have htal:w1.heap[T]?=some (.cells #[.int .i64 (sumTo N er:Nat),.int .i64 (sumTo N (fun i=>if ls i then 1 else 0):Nat)] 62):=hE1.tal
  have hgot:w1.heap[bg]?=some (.cells (gotA N tk) 39):=hE1.got
  have hwg:Wg<w1.heap.size:=hE1.wg
  have hrdx:∀b,rdL hE b→w1.heap[b]?=w'.heap[b]?:=hE1.rdx
  have hfx:w1.tape=w'.tape∧w1.os=w'.os∧w1.output=w'.output:=hE1.fix
  have nbg:¬(Sh0 bg∨bg=Wg):=fun c=>c.elim (nSh bg (by omega)) fun c=>hE1.bgn.2.1 (Or.inl c)
  have nT:¬(Sh0 T∨T=Wg):=fun c=>c.elim (nSh T (by omega)) fun c=>by omega
  obtain⟨h1,e1,hK1⟩:=kp_all (fun b=>¬(Sh0 b∨b=Wg)) w1
  refine beside_walk (S1:=fun _ w2 _=>(w2.tape=w1.tape∧w2.os=w1.os∧w2.output=w1.output)∧w1.heap.size≤w2.heap.size) (Stop:=fun _ g w2=>g=G (fc.finish (.tuple #[.slice (some ⟨bg,0,none⟩) N N,.int .i64 (sumTo N er:Nat),.int .i64 (sumTo N (fun i=>if ls i then 1 else 0):Nat),.int .i64 0])) cs∧Kp w1.heap.size h1 (fun _=>none) (fun b=>b<w1.heap.size∧¬(Sh0 b∨b=Wg)) w2)
   (run_end hK1 ((e1 T nT).trans htal) fun w2 hK2=>Wk.stop fun d=>⟨rfl,hK2.at d⟩) (fun O2 w2 t t' _ hf=>⟨⟨hf.tape,hf.os,hf.out⟩,hf.size⟩) (fun O2 g2 w2 hst2=>?_)
  intro gs2 sl2 t2 q2 h02 hL2 hP2 hO2x hSh2 hS2
  obtain⟨hfix2,hsz2⟩:=hS2
  obtain⟨rfl,hK2⟩:=hst2 w2.drawn
  replace hK2:Kp w1.heap.size h1 (fun _=>none) (fun b=>b<w1.heap.size∧¬(Sh0 b∨b=Wg)) w2:=hK2
  have keep:∀b, ¬(Sh0 b∨b=Wg)→∀o,w1.heap[b]?=some o→w2.heap[b]?=some o:=fun b hb o e=>hK2.mem b o ((e1 b hb).trans e)
  have hl1:∀b o,hE b=some o→w1.heap[b]?=some o:=fun b o e=>(hrdx b ⟨o,e⟩).trans (hK'.mem b o e)
  have nE:∀b o,hE b=some o→¬(Sh0 b∨b=Wg):=fun b o e c=>by
   have ho:=hK'.own b o e
   rcases c with c|c
   ·rcases hO1 b ho with d|d
    ·exact hOs b d c
    ·exact nSh b d c
   ·exact(spO b (Or.inl c)).1 ho
  have hbl:=lt_of_some hgot
  refine hkk Wg bg m c' y' am er ls tk w2 ⟨hW,keep bg nbg _ hgot,fun i hi=>?_,fun b o e=>keep b (nE b o (hR.old b o e)) o (hl1 b o (hR.old b o e)),⟨hfix2.1.trans (hfx.1.trans hfix.1),hfix2.2.1.trans (hfx.2.1.trans hfix.2.1),hfix2.2.2.trans (hfx.2.2.trans hfix.2.2)⟩,⟨Nat.lt_of_lt_of_le (lt_of_some hgot) hsz2,nbg⟩,by omega,⟨by omega,by omega⟩,by omega⟩ gs2 sl2 t2 q2 h02 hL2 hP2 (fun b hb=>hb) hSh2 trivial
  obtain⟨v,e,hg,hb⟩:=hall i hi
  have hlow:=(GmG.low (Nat.le_refl bO) (fun b _=>rfl) hg).2
  have nv:∀b,MvF v b→¬(Sh0 b∨b=Wg):=fun b hm c=>c.elim (nSh b (by have:=hlow b hm;omega)) fun c=>(hb b hm).2 (Or.inl c)
  refine⟨v,e,(GmG.low (by omega) (fun b hm=>?_) hg).1,fun b hm=>⟨Nat.lt_of_lt_of_le (hb b hm).1 hsz2,nv b hm⟩⟩
  have hl:=(hb b hm).1
  rw[Array.getElem?_eq_getElem hl]
  exact keep b (nv b hm) _ (Array.getElem?_eq_getElem hl)
 ·have:=hT op hop y hy b hb
  intro hs
  rcases this with c|c
  ·have:=(spO b hs).2
   omega
  ·exact(spO b hs).1 c
end
end
end Go.Proofs.YtedifobeggabnaaGreat
