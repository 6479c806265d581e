/- Texts of ours, one behind the other: ZE22 ZF0 ZF1 ZF2 ZF3 ZF4 ZF5 ZF6. -/
import Derived.Test.YtedifobeggabnaaGreatCbZE12
namespace Go.Proofs.YtedifobeggabnaaGreat
section
open Go.Conc Go.RowKit Go.ConcR.Gen
section
variable {P:Program}{main:Bool}{rd:Nat→Prop}{Lv:World→Prop}{Stop:(Nat→Prop)→Goroutine→World→Prop}{O:Nat→Prop}{n m:Nat}{g:Goroutine}{w:World}{c:Nat→Option Obj}
theorem HG.then(h:HG P main rd Lv (fun O g w=>HG P main rd Lv Stop m O g w) n O g w):HG P main rd Lv Stop (m+n) O g w:=by
 induction n generalizing O g w with
 | zero=>exact h w (Rly.refl w)
 | succ n ih=>
  rcases h with h|⟨hs,h⟩
  ·exact hg_up (n+1) (h w (Rly.refl w))
  ·refine Or.inr ⟨hs,fun w1 h1=>?_⟩
   have:=h w1 h1
   cases hg:stepG P main g w1 with
   | go g' w' es=>
    rw[hg]at this
    exact⟨this.1,ih this.2⟩
   | _=>rw[hg]at this;exact this.elim
theorem HG.keeps(h:HG P main rd Lv Stop n O g w)(hr:∀b,rd b→¬O b∧b<w.heap.size∧w.heap[b]?=c b):HG P main rd Lv (fun O g w=>Stop O g w∧∀b,rd b→w.heap[b]?=c b) n O g w:=by
 induction n generalizing O g w with
 | zero=>exact fun w1 h1=>⟨h w1 h1,fun b hb=>(h1.stb b (Or.inl hb)).trans (hr b hb).2.2⟩
 | succ n ih=>
  rcases h with h|⟨hs,h⟩
  ·exact .inl fun w1 h1=>⟨h w1 h1,fun b hb=>(h1.stb b (Or.inl hb)).trans (hr b hb).2.2⟩
  ·refine .inr ⟨hs,fun w1 h1=>?_⟩
   have:=h w1 h1
   cases hg:stepG P main g w1 with
   | go g' w' es=>
    rw[hg]at this
    refine⟨this.1,ih this.2 fun b hb=>?_⟩
    obtain⟨r1,r2,r3⟩:=hr b hb
    have r4:b<w1.heap.size:=Nat.lt_of_lt_of_le r2 h1.size
    exact⟨fun x=>x.elim r1 fun x=>by have:=x.1;omega,Nat.lt_of_lt_of_le r4 this.1.size,by rw[this.1.other b r4 r1,h1.stb b (Or.inl hb),r3]⟩
   | _=>rw[hg]at this;exact this.elim
end
section
variable {p:LnP}{tM:TypeId}{w w1 wt:World}{s i m u:Nat}{Oc B:Nat→Prop}{g:Goroutine}{fr:Frame}{cs:List Frame}
def LnP.wv(p:LnP)(i:Nat):Value:= .slice (p.wo i) (p.wn i) (p.wc i)
theorem hand_told(h:p.Ok tM)(hsT:s≠p.T)(huT:u≠p.T)(hus:u≠s)(hru:¬p.rd u)(hC:WkC p.cO p.cB p.T p.b6 p.b7 p.b8 s i (p.wv i) (wkKx Tryz.f52) fr){O:Nat→Prop}(hOs:O s)(hOu:O u)(hw:w.heap[s]?=some (.cells #[.int .i64 i, p.wv i] 98))(hu:GotZ u w) :
  TolC (p.Kx Tryz.prog) i ((rnFramex Tryz.f27) (p.wv i) p.xs p.T p.b6 p.b7 p.b8 u p.q p.k) (fr::[(p.hdfx Tryz.f50),(hdBotx Tryz.prog)]) O w:=by
 intro O' w' v hO hlv hrd hg hM
 obtain⟨go,gn,gc,rfl⟩:=h.gmv i v w' hg
 have hF:p.wkf s i w':=⟨h.hdw hrd,(hO s hOs).2.trans hw⟩
 have hz:GotZ u w':=(hO u hOu).2.trans hu
 have L:FLoc p.rd (fun x=>noB x∨x=s) p.T (p.wkf s i):=wkf_loc h.T h.hd.rO h.rdT hsT
 obtain⟨D,l,v3,v4,v5,v11,v12,v13,v14,v15,v16,v17,v18,hV,k3,k4,k5,h21,h7,h8,hfr⟩:=hC.ex
 have hb:∀w O1,(∀b,(noB b∨b=s)→O1 b)→p.wkf s i w→HG Tryz.prog false p.rd (Lvx (p.Kx Tryz.prog)) (p.snd s i (.slice go gn gc) (.int .i64 (p.er i)) (.bool (p.ls i))) (unD (fun x=>D x || decide (x=6)) 9) O1 (G (fr.finish (.agg #[.slice go gn gc,.int .i64 (p.er i),.bool (p.ls i)])) [(p.hdfx Tryz.f50),(hdBotx Tryz.prog)]) w:=by
  intro w O1 h1 hF
  rw[hfr (.slice go gn gc) (.int .i64 (p.er i)) (.bool (p.ls i)),Frame.finish_at,show((wkR3x Tryz.f52)[6]?).bind (·.dst)=some 17 from rfl,wk_put6]
  exact wk_b L h1 (Or.inr rfl) (fun w h=>h.2) l _ w hV (by simp[k3]) (by simp[k4]) (by simp[k5]) (by simp) (by simp[h8]) (by simpa using h21) (by simp[h7]) hF
 have ht:=run1_told (wv:=p.wv i) (xs:=p.xs) (b6:=p.b6) (b7:=p.b7) (b8:=p.b8) (q:=p.q) (k:=p.k) (Lv:=Lvx (p.Kx Tryz.prog)) (fun w d h=>lvx_at w d h) L (fun c=>c.elim id hus) hru huT hb ⟨hF,hz⟩
 have hl:=ht.lift (O':=O') (Oc:=O') (Z:=MvF (p.val i go gn gc)) (c:=fun b=>w'.heap[b]?) (fun b hb=>hb.elim (fun hb=>hb.elim False.elim fun e=>e▸(hO s hOs).1) fun e=>e▸(hO u hOu).1) (fun b hb=>hb) fun b hb=>?_
 ·exact⟨81,hl.mono fun B g w hL=>ad1_of (s:=s) h hg hM hL⟩
 ·obtain⟨c,hc⟩:=h.gmb _ _ _ _ hg hb
  refine⟨hM b hb,fun hx=>?_,lt_of_some hc,rfl⟩
  rcases hx with(hx|rfl)|rfl
  ·exact hx
  ·have:=hF.2
   rw[hc]at this
   injection this with this
   injection this with h1 h2
   exact h.tM2 h2
  ·have:w'.heap[b]?=some (.cells #[.slice none 0 0,.int .i64 0,.bool false] 39):=hz
   rw[hc]at this
   injection this with this
   injection this with h1 h2
   exact h.tM3 h2
def StR3(p:LnP)(i:Nat)(O:Nat→Prop)(g:Goroutine)(w:World):Prop:=
 ∃(s:Nat) (v3 v4 v5 v11 v12 v13 v14 v15 v16 v17 v18:Value),p.T<s∧(O=fun x=>noB x∨x=s)∧HdW p.Wg p.bO p.bB p.bM p.cO p.cB p.T p.b6 p.b7 p.b8 p.rd w∧w.heap[s]?=some (.cells #[.int .i64 i,p.wv i] 98)∧
  g=G ((base 52).at ⟨#[.chan (some p.cO),.chan (some p.cB),fnV p.T p.b6 p.b7 p.b8,v3,v4,v5,.pointer (some ⟨s,0,none⟩),.chan (some p.cO),.tuple #[.agg #[.int .i64 i,p.wv i],.bool true],.bool true,.agg #[.int .i64 i,p.wv i],v11,v12,v13,v14,v15,v16,v17,v18],[]⟩ (.code (.region 3 (wkR3x Tryz.f52) true)::(wkKx Tryz.f52))) [(p.hdfx Tryz.f50),(hdBotx Tryz.prog)]
theorem hand_word_ok(h:p.Ok tM)(hR:(p.Kx Tryz.prog).Rcv fr cs)(hrd:Rdx (p.Kx Tryz.prog) w):∃n,HH (p.Kx Tryz.prog) (AtMnd (p.Kx Tryz.prog) i) n noB (G (fr.finish (recvd true ((p.Kx Tryz.prog).sv i) true)) cs) w:=by
 have hcs:cs=[(p.hdfx Tryz.f50),(hdBotx Tryz.prog)]:=hR.2
 subst hcs
 have hd:=h.hdw hrd
 have h1:=hand_word (m:=0) (i:=i) (wo:=p.wo i) (wn:=p.wn i) (wc:=p.wc i) (Lv:=Lvx (p.Kx Tryz.prog)) (Stop:=StR3 p i) h.T hd hR fun w s hTs hF hs v3 v4 v5 v11 v12 v13 v14 v15 v16 v17 v18=>fun w1 hr=>⟨s,v3,v4,v5,v11,v12,v13,v14,v15,v16,v17,v18,hTs,rfl,hF.rely hr,(hr.stb s (Or.inr (Or.inr rfl))).trans hs,rfl⟩
 have h2:=h1.keeps (c:=fun b=>p.w0.heap[b]?) fun b hb=>⟨id,hd.lt b hb,hrd b hb⟩
 refine⟨75+60,(h2.mono fun O g w hS=>?_).then⟩
 obtain⟨⟨s,v3,v4,v5,v11,v12,v13,v14,v15,v16,v17,v18,hTs,rfl,hF,hs,rfl⟩,hk⟩:=hS
 have hsT:s≠p.T:=by omega
 have L:FLoc p.rd (fun x=>noB x∨x=s) p.T (fun w=>p.wkf s i w∧Rdx (p.Kx Tryz.prog) w):=by
  have L:=wkf_loc (Wg:=p.Wg) (bO:=p.bO) (bB:=p.bB) (bM:=p.bM) (cO:=p.cO) (cB:=p.cB) (T:=p.T) (b6:=p.b6) (b7:=p.b7) (b8:=p.b8) (i:=i) (wv:=p.wv i) h.T h.hd.rO h.rdT hsT
  exact⟨fun w w1 hk hz hf=>⟨L.keep w w1 hk hz hf.1,fun b hb=>(hk b (Or.inr hb)).trans (hf.2 b hb)⟩,fun w hf=>L.lt w hf.1,L.nT⟩
 have hRn:RnF p.rd (fun w=>p.wkf s i w∧Rdx (p.Kx Tryz.prog) w) p.b6 p.b7 p.b8 p.q p.k p.xs:=⟨h.rn.r6,h.rn.r7,h.rn.r8,fun w hf=>h.rn.c6 w hf.2,fun w hf=>h.rn.c7 w hf.2,fun w hf=>h.rn.c8 w hf.2⟩
 have eT:(#[.chan (some p.cO),.chan (some p.cB),fnV p.T p.b6 p.b7 p.b8,v3,v4,v5,.pointer (some ⟨s,0,none⟩),.chan (some p.cO),.tuple #[.agg #[.int .i64 i,p.wv i],.bool true],.bool true,.agg #[.int .i64 i,p.wv i],v11,v12,v13,v14,v15,v16,v17,v18]:Array Value)=wkT (fun i=>decide ((wkR3x Tryz.f52).size≤i)) p.cO p.cB p.T p.b6 p.b7 p.b8 s i (p.wv i) undef undef undef v3 v4 v5 v11 v12 v13 v14 v15 v16 v17 v18:=by
  rw[show(wkR3x Tryz.f52).size=9 by kernel_rfl]
  simp[wkT]
 refine hg_draw (n:=74) (by kernel_rfl) wk_on (fun w d h=>lvx_at w d h) fun l hl=>?_
 rw[eT]
 have ha:=wk_a (k:=(wkKx Tryz.f52)) (cs:=[(p.hdfx Tryz.f50),(hdBotx Tryz.prog)]) (Lv:=Lvx (p.Kx Tryz.prog)) (g0:=undef) (g1:=undef) (g2:=undef) (v3:=v3) (v4:=v4) (v5:=v5) (v11:=v11) (v12:=v12) (v13:=v13) (v14:=v14) (v15:=v15) (v16:=v16) (v17:=v17) (v18:=v18) (cO:=p.cO) (cB:=p.cB) L hRn (Or.inr rfl) (fun w hf=>hf.1.2) l _ w hl (by rw[show(wkR3x Tryz.f52).size=9 by kernel_rfl];rfl) (by rw[show(wkR3x Tryz.f52).size=9 by kernel_rfl];rfl) (by rw[show(wkR3x Tryz.f52).size=9 by kernel_rfl];rfl) (by rw[show(wkR3x Tryz.f52).size=9 by kernel_rfl];simp) (by rw[show(wkR3x Tryz.f52).size=9 by kernel_rfl];simp) ⟨⟨hF,hs⟩,hk⟩
 have e9:unD (fun i=>decide ((wkR3x Tryz.f52).size≤i)) 9=9:=by
  rw[show(wkR3x Tryz.f52).size=9 by kernel_rfl]
  rfl
 rw[e9]at ha
 refine ha.mono fun O' g w hS=>?_
 obtain⟨fr,hC,u,huT,hOu,hru,rfl,hf,hu,rfl⟩:=hS
 exact⟨_,_,rfl,hand_told h hsT huT (fun e=>hOu (Or.inr e)) hru hC (Or.inl (Or.inr rfl)) (Or.inr rfl) hf.1.2 hu⟩
theorem hand_over_ok(h:p.Ok tM)(hR:(p.Kx Tryz.prog).Rcv fr cs)(hlv:Lvx (p.Kx Tryz.prog) w)(hrd:Rdx (p.Kx Tryz.prog) w):∃n,HH (p.Kx Tryz.prog) (AtDon (p.Kx Tryz.prog)) n noB (G (fr.finish (recvd true (p.Kx Tryz.prog).zO false)) cs) w:=by
 refine hand_over (Lv:=Lvx (p.Kx Tryz.prog)) (Stop:=AtDon (p.Kx Tryz.prog)) (h.hdw hrd) hlv hR fun w hd hl=>?_
 have hq:=last_quits (f:=50) (fn:=Tryz.f50) (a:=⟨#[.pointer (some ⟨p.Wg,0,none⟩),.pointer (some ⟨p.bO,0,none⟩),.pointer (some ⟨p.bB,0,none⟩),.pointer (some ⟨p.bM,0,none⟩),.chan (some p.cO),.chan (some p.cB),fnV p.T p.b6 p.b7 p.b8,.tuple #[]],[]⟩) (todo:=[]) rfl Tryz.func50 rfl
 exact⟨23,done_goes p.et rfl hq hl hd.cO,done_goes p.et rfl hq hl hd.cB⟩
theorem hand_ok(h:p.Ok tM)(hmend:∀i w,i<p.N→Lvx (p.Kx Tryz.prog) w→Rdx (p.Kx Tryz.prog) w→∃V Post,MndOk (p.Kx Tryz.prog) i w V Post)(hfn:p.F.fn 29)(hrd:∀i b,p.Qm i b→p.rd b):HandOk (p.Kx Tryz.prog) where
 step:=fun _ _ w hR=>hand_rcv hR w
 word:=fun _ _ _ _ hR _ _ hrd=>hand_word_ok h hR hrd
 over:=fun _ _ _ hR hlv hrd=>hand_over_ok h hR hlv hrd
 mend:=hmend
 fn:=hfn
 reads:=hrd
 gm:=h.gm
 tvi:=fun i v i' v' e=>tvF_inj i v i' v' e
end
end
section
open Go.Conc Go.RowKit Go.ConcR.Gen
open Go.ConcN.Gen
end
section
open Go.Conc Go.RowKit Go.ConcR.Gen
open Go.ConcR (KK WgAt stA smA rd wr mk)
open Go.ConcN (WgLive)
open Go.ConcN.Gen
section
variable {K:Cfg}{O:Nat→Prop}{w:World}{F:World→Prop}{Nx:(Nat→Prop)→Goroutine→World→Prop}{b₀:Frame}{a₀:Act}{ops:Array Oper}{i:Nat}{rest:List Nat}{k:List Item}{cs:List Frame}
set_option maxRecDepth 100000 in
set_option maxHeartbeats 8000000 in
theorem gadd {p:LnP}(RL:∀ {w w1},F w→Rly p.rd (Lvx (p.Kx Tryz.prog)) O w w1→F w1)(hset:∀w (v:Int),F w→F (w.setCell (stA p.Wg) (.int .u64 v)))(hLv:∀w,F w→WgLive wgLink.tWg p.Wg w)(hF:F w)
  {m:Nat} (hT:∀w,F w→H0 (p.Kx Tryz.prog) (AtGo (p.Kx Tryz.prog) Nx) m O (G (b₀.at (a₀.put ((ops[i]?).bind (·.dst)) (.tuple #[])) (.inRegion ops rest::k)) cs) w) :
   H0 (p.Kx Tryz.prog) (AtMk (p.Kx Tryz.prog) .disable (AtA1 (p.Kx Tryz.prog) Nx)) 300 O (G (Frame.enter Tryz.prog 49 #[.pointer (some ⟨p.Wg,0,none⟩),.int .i64 1] .normal) (b₀.at a₀ (.inRegion ops (i::rest)::k)::cs)) w:=by
 have H:=wgLib
 unfold H0
 rw[enter_at _ Tryz.func49 rfl]
 walk_nrmf Tryz.f49
 refine goes_hg (n:=300) (m:=0) ?_
 repeat(first|u_c stepG_region_end RL hF|u_c stepG_seq RL hF|u_reg RL hF|u_cond true RL hF|u_cond false RL hF|u_c stepG_skip RL hF|u_op RL hF|u_skip RL hF)
 refine Goes.stop (fun w₁ h₁=>?_)
 replace hF:=RL hF h₁
 clear h₁
 refine HG.stop (fun w₂ h₂=>?_)
 replace hF:=RL hF h₂
 clear h₂
 refine⟨rfl,_,stepG_mark0 .disable (by simp) rfl rfl (by decide) rfl Tryz.func69 (by kernel_rfl) (by kernel_rfl) (by kernel_rfl) (by kernel_rfl),300,?_⟩
 unfold H0
 walk_nrm
 refine goes_hg (n:=300) (m:=0) ?_
 repeat(first|u_c stepG_region_end RL hF|u_c stepG_seq RL hF|u_reg RL hF|u_cond true RL hF|u_cond false RL hF|u_c stepG_skip RL hF|u_op RL hF|u_skip RL hF)
 u_defer RL hF
 repeat(first|u_c stepG_region_end RL hF|u_c stepG_seq RL hF|u_reg RL hF|u_cond true RL hF|u_cond false RL hF|u_c stepG_skip RL hF|u_op RL hF|u_skip RL hF)
 u_in RL hF
 rw[stepG_entry_pure (.bool false) rfl rfl (by decide) rfl Tryz.func71 (by kernel_rfl) (by kernel_rfl) (by kernel_rfl) (by kernel_rfl)]
 simp only[goes_go]
 refine⟨by u_nil,?_⟩
 walk_nrm
 repeat(first|u_c stepG_region_end RL hF|u_c stepG_seq RL hF|u_reg RL hF|u_cond true RL hF|u_cond false RL hF|u_c stepG_skip RL hF|u_op RL hF|u_skip RL hF)
 u_call Tryz.func75 (by kernel_rfl) Tryz.f75 RL hF
 repeat(first|u_c stepG_region_end RL hF|u_c stepG_seq RL hF|u_reg RL hF|u_cond true RL hF|u_cond false RL hF|u_c stepG_skip RL hF|u_op RL hF|u_skip RL hF)
 refine Goes.stop (fun w₁ h₁=>?_)
 replace hF:=RL hF h₁
 clear h₁
 refine HG.stop (fun w₂ h₂=>?_)
 replace hF:=RL hF h₂
 clear h₂
 refine⟨rfl,fun v hv hw=>?_⟩
 rcases Nat.eq_zero_or_pos v with rfl|hvp
 · have e0:IntKind.u64.wrap (((0:Nat):Int)*KK+4294967296)=(((0:Nat):Int)+1)*KK:=by decide
   refine⟨_,(stepG_add_atomic rfl rfl (by decide) rfl Tryz.func97 (by kernel_rfl) (by kernel_rfl) (by kernel_rfl) .u64 (by kernel_rfl) rfl rfl hw.cellSt (hw.thaw 0)).trans (by rw[e0];rfl),fun _=>⟨300,?_⟩,fun h=>absurd rfl h⟩
   have z:(((0:Nat):Int)+1)*KK=4294967296:=by decide
   rw[z]
   replace hF:=hset w₂ 4294967296 hF
   clear hw e0 z
   unfold H0
   walk_nrm
   refine goes_hg (n:=300) (m:=0) ?_
   repeat(first|u_c stepG_region_end RL hF|u_c stepG_seq RL hF|u_reg RL hF|u_cond true RL hF|u_cond false RL hF|u_c stepG_skip RL hF|u_op RL hF|u_skip RL hF)
   u_c stepG_ret' RL hF
   u_leave1 Tryz.func75 RL hF
   repeat(first|u_c stepG_region_end RL hF|u_c stepG_seq RL hF|u_reg RL hF|u_cond true RL hF|u_cond false RL hF|u_c stepG_skip RL hF|u_op RL hF|u_skip RL hF)
   u_in RL hF
   refine goes_oper_k rfl rfl (by decide) (fun Kx hKx=>?_)
   have hcv:=run_convert_to_unsafe (P:=Tryz.prog) H.underlying_tPU32 H.underlying_tUP H.room_tU32 (WgLive.cell1 (hLv _ hF)).choose_spec
   have hce:=fun es=>events_convert_to_unsafe (P:=Tryz.prog) H.underlying_tPU32 H.underlying_tUP H.room_tU32 (WgLive.cell1 (hLv _ hF)).choose_spec es
   simp only[wgLink]at hcv hce
   go_simp
   refine hKx _ _ ⟨?_,?_⟩
   · u_none
     intro ex hex
     have hmx:=mem_listed hex
     simp[go_sem,hce]at hmx
   clear hKx Kx hcv hce
   refine Goes.stop (fun w₁ h₁=>?_)
   replace hF:=RL hF h₁
   clear h₁
   refine HG.stop (fun w₃ h₃=>?_)
   replace hF:=RL hF h₃
   clear h₃
   refine⟨rfl,_,stepG_markAt .read (by simp) rfl rfl (by decide) rfl Tryz.func76 (by kernel_rfl) (by kernel_rfl) (by kernel_rfl) (by kernel_rfl) (ad:=⟨p.Wg,1,none⟩) (by simp[Act.eval]),300,?_⟩
   unfold H0
   walk_nrm
   refine goes_hg (n:=300) (m:=0) ?_
   repeat(first|u_c stepG_region_end RL hF|u_c stepG_seq RL hF|u_reg RL hF|u_cond true RL hF|u_cond false RL hF|u_c stepG_skip RL hF|u_op RL hF|u_skip RL hF)
   u_c stepG_ret' RL hF
   refine Goes.stop (fun w₃ h₃=>?_)
   replace hF:=RL hF h₃
   clear h₃
   refine HG.stop (fun w₄ h₄=>?_)
   replace hF:=RL hF h₄
   clear h₄
   refine⟨rfl,_,stepG_unwind_entry (e:=fun _=>do mark .enable;pure Extern.Race.none_) (v:= .tuple #[]) (evs := #[mk .enable]) rfl Tryz.func70 (by kernel_rfl) (by kernel_rfl) (by kernel_rfl) (by kernel_rfl) (by simp[Extern.Race.none_]) (by simp[mk]) (by simp[mk]),?_⟩
   refine⟨m+10,?_⟩
   unfold H0
   refine goes_hg (n:=10) (m:=m) ?_
   u_leave0 Tryz.func49 RL hF
   refine Goes.stop (fun w₅ h₅=>?_)
   exact hT _ (RL hF h₅)
 · obtain⟨V,hV⟩:∃V:Int,V=(v:Int)+1:=⟨_,rfl⟩
   obtain⟨S,hS⟩:∃S:Int,S=V*KK:=⟨_,rfl⟩
   have eS:IntKind.u64.wrap ((v:Int)*KK+4294967296)=S:=by rw[IntKind.wrap_u64,hS,hV];simp only[KK];omega
   rw[←hV, ←hS]
   have a1:S / 4294967296=V:=by rw[hS];simp only[KK];omega
   have b1:bits .and .u64 S 2147483648=0:=by rw[hS,hV];have:=Go.ConcN.st_flag (v+1) 0 (by omega) (by omega);simpa [KK]using this
   have b2:bits .and .u64 S 2147483647=0:=by rw[hS,hV];have:=Go.ConcN.st_waiters (v+1) 0 (by omega) (by omega);simpa [KK]using this
   have c1:IntKind.i32.wrap V=V:=by rw[IntKind.wrap_i32];omega
   have hV1:1<V:=by omega
   have hV2:V<2147483648:=by omega
   have q1:(V == 1)=false:=by simp;omega
   have q2:decide (V=1)=false:=decide_eq_false (by omega)
   have q3:decide (V<0)=false:=decide_eq_false (by omega)
   have q4:decide (0<V)=true:=decide_eq_true (by omega)
   have q5:(V == 0)=false:=by simp;omega
   have q6:decide (V=0)=false:=decide_eq_false (by omega)
   refine⟨_,(stepG_add_atomic rfl rfl (by decide) rfl Tryz.func97 (by kernel_rfl) (by kernel_rfl) (by kernel_rfl) .u64 (by kernel_rfl) rfl rfl hw.cellSt (hw.thaw 0)).trans (by rw[eS];rfl),fun h=>absurd h (by omega),fun _=>⟨300,?_⟩⟩
   replace hF:=hset w₂ S hF
   clear hw hS hV eS
   unfold H0
   walk_nrm
   refine goes_hg (n:=300) (m:=0) ?_
   repeat(first|u_c stepG_region_end RL hF|u_c stepG_seq RL hF|u_reg RL hF|u_cond true RL hF|u_cond false RL hF|u_c stepG_skip RL hF|u_op RL hF|u_skip RL hF)
   u_c stepG_ret' RL hF
   u_leave1 Tryz.func75 RL hF
   repeat(first|u_c stepG_region_end RL hF|u_c stepG_seq RL hF|u_reg RL hF|u_cnd true RL hF|u_cnd false RL hF|u_c stepG_skip RL hF|u_op RL hF|u_skip RL hF)
   u_c stepG_ret' RL hF
   refine Goes.stop (fun w₃ h₃=>?_)
   replace hF:=RL hF h₃
   clear h₃
   refine HG.stop (fun w₄ h₄=>?_)
   replace hF:=RL hF h₄
   clear h₄
   refine⟨rfl,_,stepG_unwind_entry (e:=fun _=>do mark .enable;pure Extern.Race.none_) (v:= .tuple #[]) (evs := #[mk .enable]) rfl Tryz.func70 (by kernel_rfl) (by kernel_rfl) (by kernel_rfl) (by kernel_rfl) (by simp[Extern.Race.none_]) (by simp[mk]) (by simp[mk]),?_⟩
   refine⟨m+10,?_⟩
   unfold H0
   refine goes_hg (n:=10) (m:=m) ?_
   u_leave0 Tryz.func49 RL hF
   refine Goes.stop (fun w₅ h₅=>?_)
   exact hT _ (RL hF h₅)
end
end
section
open Go.Conc Go.RowKit Go.ConcR.Gen
open Go.ConcR (KK WgAt stA smA rd wr mk)
open Go.ConcN (WgLive)
open Go.ConcN.Gen
def wtLx(f:Func):Code:=match f.body with|some (.seq _ (.block _ (.loop c)))=>c|_=> .skip
section
variable {K:Cfg}{O:Nat→Prop}{w:World}{F:World→Prop}{tk:Nat→Option Value}{b₀:Frame}{a₀:Act}{ops:Array Oper}{i:Nat}{rest:List Nat}{k:List Item}{cs:List Frame}
def WtA(Wg:Nat)(c:Frame)(cs:List Frame)(g:Goroutine):Prop:=
 ∃T:Array Value,g=G ((base 53).at ⟨T,[]⟩ [.code (wtLx Tryz.f53),.inLoop (wtLx Tryz.f53),.inBlock 0]) (c::cs)∧T.size=84∧T[0]?=some (.pointer (some ⟨Wg,0,none⟩))
set_option maxRecDepth 100000 in
set_option maxHeartbeats 8000000 in
theorem gwait_start {p:LnP}(RL:∀ {w w1},F w→Rly p.rd (Lvx (p.Kx Tryz.prog)) O w w1→F w1)(hF:F w)
  (hA:∀g w,F w→WtA p.Wg (b₀.at a₀ (.inRegion ops (i::rest)::k)) cs g→p.Anc tk O g w) :
   H0 (p.Kx Tryz.prog) (AtKd (p.Kx Tryz.prog) tk) 300 O (G (Frame.enter Tryz.prog 53 #[.pointer (some ⟨p.Wg,0,none⟩)] .normal) (b₀.at a₀ (.inRegion ops (i::rest)::k)::cs)) w:=by
 unfold H0 WtA wtLx at *
 simp only[Tryz.f53]at hA
 rw[enter_at _ Tryz.func53 rfl]
 walk_nrmf Tryz.f53
 refine goes_hg (n:=300) (m:=0) ?_
 repeat(first|u_c stepG_region_end RL hF|u_c stepG_seq RL hF|u_reg RL hF|u_cnd true RL hF|u_cnd false RL hF|u_c stepG_skip RL hF|u_op RL hF|u_skip RL hF)
 refine Goes.stop (fun w₁ hw₁=>?_)
 replace hF:=RL hF hw₁
 clear hw₁
 refine HG.stop (fun w₂ hw₂=>?_)
 replace hF:=RL hF hw₂
 clear hw₂
 refine⟨rfl,_,stepG_mark0 .disable (by simp) rfl rfl (by decide) rfl Tryz.func69 (by kernel_rfl) (by kernel_rfl) (by kernel_rfl) (by kernel_rfl),300,?_⟩
 unfold H0
 walk_nrm
 refine goes_hg (n:=300) (m:=0) ?_
 repeat(first|u_c stepG_region_end RL hF|u_c stepG_seq RL hF|u_reg RL hF|u_cnd true RL hF|u_cnd false RL hF|u_c stepG_skip RL hF|u_op RL hF|u_skip RL hF)
 u_c stepG_block RL hF
 u_c stepG_loop RL hF
 refine Goes.stop (fun w₃ h₃=>?_)
 replace hF:=RL hF h₃
 clear h₃
 refine HG.stop (fun w₄ h₄=>?_)
 replace hF:=RL hF h₄
 exact hA _ _ hF ⟨_,rfl,by simp,by simp⟩
set_option maxRecDepth 100000 in
set_option maxHeartbeats 8000000 in
theorem gwait_round {p:LnP}{g:Goroutine}(RL:∀ {w w1},F w→Rly p.rd (Lvx (p.Kx Tryz.prog)) O w w1→F w1)(hset:∀w (v:Int),F w→F (w.setCell (stA p.Wg) (.int .u64 v)))(hset2:∀w (v:Int),F w→F (w.setCell (smA p.Wg) (.int .u32 v)))(hLv:∀w,F w→WgLive wgLink.tWg p.Wg w)
  (hA:∀g w,F w→WtA p.Wg (b₀.at a₀ (.inRegion ops (i::rest)::k)) cs g→p.Anc tk O g w)
  {m:Nat} (hT:∀w,F w→H0 (p.Kx Tryz.prog) (AtCl2 (p.Kx Tryz.prog) tk) m O (G (b₀.at (a₀.put ((ops[i]?).bind (·.dst)) (.tuple #[])) (.inRegion ops rest::k)) cs) w)
  (hF:F w) (hg:WtA p.Wg (b₀.at a₀ (.inRegion ops (i::rest)::k)) cs g):H0 (p.Kx Tryz.prog) (AtW1 (p.Kx Tryz.prog) tk) 300 O g w:=by
 have H:=wgLib
 obtain⟨T,rfl,hT84,t0⟩:=hg
 obtain⟨v0,v1,v2,v3,v4,v5,v6,v7,v8,v9,v10,v11,v12,v13,v14,v15,v16,v17,v18,v19,v20,v21,v22,v23,v24,v25,v26,v27,v28,v29,v30,v31,v32,v33,v34,v35,v36,v37,v38,v39,v40,v41,v42,v43,v44,v45,v46,v47,v48,v49,v50,v51,v52,v53,v54,v55,v56,v57,v58,v59,v60,v61,v62,v63,v64,v65,v66,v67,v68,v69,v70,v71,v72,v73,v74,v75,v76,v77,v78,v79,v80,v81,v82,v83,rfl⟩:=array84 T hT84
 simp only[List.getElem?_toArray,List.getElem?_cons_zero,Option.some.injEq]at t0
 subst t0
 unfold WtA wtLx at hA
 simp only[Tryz.f53]at hA
 unfold H0 wtLx
 simp only[Tryz.f53]
 refine goes_hg (n:=300) (m:=0) ?_
 u_c stepG_block RL hF
 repeat(first|u_c stepG_region_end RL hF|u_c stepG_seq RL hF|u_reg RL hF|u_cnd true RL hF|u_cnd false RL hF|u_c stepG_skip RL hF|u_op RL hF|u_skip RL hF)
 u_call Tryz.func77 (by kernel_rfl) Tryz.f77 RL hF
 repeat(first|u_c stepG_region_end RL hF|u_c stepG_seq RL hF|u_reg RL hF|u_cnd true RL hF|u_cnd false RL hF|u_c stepG_skip RL hF|u_op RL hF|u_skip RL hF)
 refine Goes.stop (fun w₁ hw₁=>?_)
 replace hF:=RL hF hw₁
 clear hw₁
 refine HG.stop (fun w₂ hw₂=>?_)
 replace hF:=RL hF hw₂
 clear hw₂
 refine⟨rfl,fun v hv hw=>?_⟩
 rcases Nat.eq_zero_or_pos v with rfl|hvp
 · replace hw:WgAt wgLink.tWg p.Wg w₂ 0 0:=by simpa using hw
   refine⟨_,stepG_load_atomic (v:=0) rfl rfl (by decide) rfl Tryz.func98 (by kernel_rfl) (by kernel_rfl) (by kernel_rfl) .u64 (by kernel_rfl) rfl hw.cellSt,fun _=>⟨300,?_⟩,fun h=>absurd rfl h⟩
   clear hw
   unfold H0
   walk_nrm
   refine goes_hg (n:=300) (m:=0) ?_
   repeat(first|u_c stepG_region_end RL hF|u_c stepG_seq RL hF|u_reg RL hF|u_cnd true RL hF|u_cnd false RL hF|u_c stepG_skip RL hF|u_op RL hF|u_skip RL hF)
   u_c stepG_ret' RL hF
   u_leave1 Tryz.func77 RL hF
   repeat(first|u_c stepG_region_end RL hF|u_c stepG_seq RL hF|u_reg RL hF|u_cnd true RL hF|u_cnd false RL hF|u_c stepG_skip RL hF|u_op RL hF|u_skip RL hF)
   refine Goes.stop (fun w₁ hw₁=>?_)
   replace hF:=RL hF hw₁
   clear hw₁
   refine HG.stop (fun w₃ hw₃=>?_)
   replace hF:=RL hF hw₃
   clear hw₃
   refine⟨rfl,_,stepG_mark0 .enable (by simp) rfl rfl (by decide) rfl Tryz.func70 (by kernel_rfl) (by kernel_rfl) (by kernel_rfl) (by kernel_rfl),300,?_⟩
   unfold H0
   walk_nrm
   refine goes_hg (n:=300) (m:=0) ?_
   repeat(first|u_c stepG_region_end RL hF|u_c stepG_seq RL hF|u_reg RL hF|u_cnd true RL hF|u_cnd false RL hF|u_c stepG_skip RL hF|u_op RL hF|u_skip RL hF)
   u_in RL hF
   refine goes_oper_k rfl rfl (by decide) (fun Kx hKx=>?_)
   have hcv:=run_convert_to_unsafe (P:=Tryz.prog) H.underlying_tWgP H.underlying_tUP H.room_tWg (WgLive.cell0 (hLv _ hF)).choose_spec
   have hce:=fun es=>events_convert_to_unsafe (P:=Tryz.prog) H.underlying_tWgP H.underlying_tUP H.room_tWg (WgLive.cell0 (hLv _ hF)).choose_spec es
   simp only[wgLink]at hcv hce
   go_simp
   refine hKx _ _ ⟨?_,?_⟩
   · u_none
     intro ex hex
     have hmx:=mem_listed hex
     simp[go_sem,hce]at hmx
   clear hKx Kx hcv hce
   refine Goes.stop (fun w₄ hw₄=>?_)
   replace hF:=RL hF hw₄
   clear hw₄
   refine HG.stop (fun w₅ hw₅=>?_)
   replace hF:=RL hF hw₅
   clear hw₅
   refine⟨rfl,_,stepG_markAt .acquire (by simp) rfl rfl (by decide) rfl Tryz.func81 (by kernel_rfl) (by kernel_rfl) (by kernel_rfl) (by kernel_rfl) (by simp[Act.eval,stA]),?_⟩
   refine⟨m+300,?_⟩
   unfold H0
   walk_nrm
   refine goes_hg (n:=300) (m:=m) ?_
   repeat(first|u_c stepG_region_end RL hF|u_c stepG_seq RL hF|u_reg RL hF|u_cnd true RL hF|u_cnd false RL hF|u_c stepG_skip RL hF|u_op RL hF|u_skip RL hF)
   u_c stepG_ret' RL hF
   u_leave0 Tryz.func53 RL hF
   refine Goes.stop (fun w₉ h₉=>?_)
   exact hT _ (RL hF h₉)
 · obtain⟨S,hS⟩:∃S:Int,(v:Int)*KK=S:=⟨_,rfl⟩
   have a1:S / 4294967296=(v:Int):=by rw[←hS];simp only[KK];omega
   have b1:bits .and .u64 S 2147483648=0:=by rw[←hS];have:=Go.ConcN.st_flag v 0 (by omega) (by omega);simpa [KK]using this
   have b2:bits .and .u64 S 2147483647=0:=by rw[←hS];have:=Go.ConcN.st_waiters v 0 (by omega) (by omega);simpa [KK]using this
   have c1:IntKind.i32.wrap (v:Int)=(v:Int):=by rw[IntKind.wrap_i32];omega
   have z1:IntKind.u64.wrap (S+1)=S+1:=by rw[IntKind.wrap_u64, ←hS];simp only[KK];omega
   have q3:decide ((v:Int)<0)=false:=decide_eq_false (by omega)
   have q4:decide (0<(v:Int))=true:=decide_eq_true (by omega)
   have q5:((v:Int) == 0)=false:=by simp;omega
   have q6:decide ((v:Int)=0)=false:=decide_eq_false (by omega)
   rw[hS]at hw
   refine⟨_,stepG_load_atomic (v:=S) rfl rfl (by decide) rfl Tryz.func98 (by kernel_rfl) (by kernel_rfl) (by kernel_rfl) .u64 (by kernel_rfl) rfl hw.cellSt,fun h0=>absurd h0 (by omega),fun _=>⟨300,?_⟩⟩
   clear hw
   unfold H0
   walk_nrm
   refine goes_hg (n:=300) (m:=0) ?_
   repeat(first|u_c stepG_region_end RL hF|u_c stepG_seq RL hF|u_reg RL hF|u_cnd true RL hF|u_cnd false RL hF|u_c stepG_skip RL hF|u_op RL hF|u_skip RL hF)
   u_c stepG_ret' RL hF
   u_leave1 Tryz.func77 RL hF
   repeat(first|u_c stepG_region_end RL hF|u_c stepG_seq RL hF|u_reg RL hF|u_cnd true RL hF|u_cnd false RL hF|u_c stepG_skip RL hF|u_op RL hF|u_skip RL hF)
   u_call Tryz.func83 (by kernel_rfl) Tryz.f83 RL hF
   repeat(first|u_c stepG_region_end RL hF|u_c stepG_seq RL hF|u_reg RL hF|u_cnd true RL hF|u_cnd false RL hF|u_c stepG_skip RL hF|u_op RL hF|u_skip RL hF)
   refine Goes.stop (fun w₃ hw₃=>?_)
   replace hF:=RL hF hw₃
   clear hw₃
   refine HG.stop (fun w₄ hw₄=>?_)
   replace hF:=RL hF hw₄
   clear hw₄
   refine⟨rfl,fun v' hv' hw=>⟨fun e=>?_,fun e=>?_⟩⟩
   · subst e
     rw[hS]at hw ⊢
     refine⟨_,(stepG_cas_hit (v:=S) (n:=S+1) rfl rfl (by decide) rfl Tryz.func100 (by kernel_rfl) (by kernel_rfl) (by kernel_rfl) .u64 (by kernel_rfl) rfl rfl rfl hw.cellSt (hw.thaw 0)).trans (by rfl),300,?_⟩
     replace hF:=hset w₄ (S+1) hF
     clear hw
     unfold H0
     walk_nrm
     refine goes_hg (n:=300) (m:=0) ?_
     repeat(first|u_c stepG_region_end RL hF|u_c stepG_seq RL hF|u_reg RL hF|u_cnd true RL hF|u_cnd false RL hF|u_c stepG_skip RL hF|u_op RL hF|u_skip RL hF)
     u_c stepG_ret' RL hF
     u_leave1 Tryz.func83 RL hF
     repeat(first|u_c stepG_region_end RL hF|u_c stepG_seq RL hF|u_reg RL hF|u_cnd true RL hF|u_cnd false RL hF|u_c stepG_skip RL hF|u_op RL hF|u_skip RL hF)
     u_in RL hF
     refine goes_oper_k rfl rfl (by decide) (fun Kx hKx=>?_)
     have hcv:=run_convert_to_unsafe (P:=Tryz.prog) H.underlying_tPU32 H.underlying_tUP H.room_tU32 (WgLive.cell1 (hLv _ hF)).choose_spec
     have hce:=fun es=>events_convert_to_unsafe (P:=Tryz.prog) H.underlying_tPU32 H.underlying_tUP H.room_tU32 (WgLive.cell1 (hLv _ hF)).choose_spec es
     simp only[wgLink]at hcv hce
     go_simp
     refine hKx _ _ ⟨?_,?_⟩
     · u_none
       intro ex hex
       have hmx:=mem_listed hex
       simp[go_sem,hce]at hmx
     clear hKx Kx hcv hce
     refine Goes.stop (fun w₅ hw₅=>?_)
     replace hF:=RL hF hw₅
     clear hw₅
     refine HG.stop (fun w₆ hw₆=>?_)
     replace hF:=RL hF hw₆
     clear hw₆
     refine⟨rfl,_,stepG_markAt .write (by simp) rfl rfl (by decide) rfl Tryz.func84 (by kernel_rfl) (by kernel_rfl) (by kernel_rfl) (by kernel_rfl) (ad:=⟨p.Wg,1,none⟩) (by simp[Act.eval]),300,?_⟩
     unfold H0
     walk_nrm
     refine goes_hg (n:=300) (m:=0) ?_
     repeat(first|u_c stepG_region_end RL hF|u_c stepG_seq RL hF|u_reg RL hF|u_cnd true RL hF|u_cnd false RL hF|u_c stepG_skip RL hF|u_op RL hF|u_skip RL hF)
     refine Goes.stop (fun w₇ hw₇=>?_)
     replace hF:=RL hF hw₇
     clear hw₇
     refine HG.stop (fun w₈ hw₈=>?_)
     replace hF:=RL hF hw₈
     clear hw₈
     refine⟨rfl,rfl,fun⟨st,hw⟩=>stepG_semacquire_wait rfl rfl rfl Tryz.func85 (by kernel_rfl) (by kernel_rfl) (by kernel_rfl) (by kernel_rfl) (by simp[Act.eval,smA]) hw.cellSm,fun hf=>?_⟩
     refine⟨_,(stepG_semacquire (n:=1) rfl rfl (by decide) rfl Tryz.func85 (by kernel_rfl) (by kernel_rfl) (by kernel_rfl) (by kernel_rfl) (by simp[Act.eval,smA]) hf.cellSm (by decide) (hf.thaw 1)).trans (by rfl),300,?_⟩
     replace hF:=hset2 w₈ 0 hF
     clear hf
     unfold H0
     walk_nrm
     refine goes_hg (n:=300) (m:=0) ?_
     repeat(first|u_c stepG_region_end RL hF|u_c stepG_seq RL hF|u_reg RL hF|u_cnd true RL hF|u_cnd false RL hF|u_c stepG_skip RL hF|u_op RL hF|u_skip RL hF)
     u_call Tryz.func77 (by kernel_rfl) Tryz.f77 RL hF
     repeat(first|u_c stepG_region_end RL hF|u_c stepG_seq RL hF|u_reg RL hF|u_cnd true RL hF|u_cnd false RL hF|u_c stepG_skip RL hF|u_op RL hF|u_skip RL hF)
     refine Goes.stop (fun y₁ hy₁=>?_)
     replace hF:=RL hF hy₁
     clear hy₁
     refine HG.stop (fun y₂ hy₂=>?_)
     replace hF:=RL hF hy₂
     clear hy₂
     refine⟨rfl,fun hw=>⟨_,stepG_load_atomic (v:=0) rfl rfl (by decide) rfl Tryz.func98 (by kernel_rfl) (by kernel_rfl) (by kernel_rfl) .u64 (by kernel_rfl) rfl hw.cellSt,300,?_⟩⟩
     clear hw
     unfold H0
     walk_nrm
     refine goes_hg (n:=300) (m:=0) ?_
     repeat(first|u_c stepG_region_end RL hF|u_c stepG_seq RL hF|u_reg RL hF|u_cnd true RL hF|u_cnd false RL hF|u_c stepG_skip RL hF|u_op RL hF|u_skip RL hF)
     u_c stepG_ret' RL hF
     u_leave1 Tryz.func77 RL hF
     repeat(first|u_c stepG_region_end RL hF|u_c stepG_seq RL hF|u_reg RL hF|u_cnd true RL hF|u_cnd false RL hF|u_c stepG_skip RL hF|u_op RL hF|u_skip RL hF)
     refine Goes.stop (fun y₃ hy₃=>?_)
     replace hF:=RL hF hy₃
     clear hy₃
     refine HG.stop (fun y₄ hy₄=>?_)
     replace hF:=RL hF hy₄
     clear hy₄
     refine⟨rfl,_,stepG_mark0 .enable (by simp) rfl rfl (by decide) rfl Tryz.func70 (by kernel_rfl) (by kernel_rfl) (by kernel_rfl) (by kernel_rfl),300,?_⟩
     unfold H0
     walk_nrm
     refine goes_hg (n:=300) (m:=0) ?_
     repeat(first|u_c stepG_region_end RL hF|u_c stepG_seq RL hF|u_reg RL hF|u_cnd true RL hF|u_cnd false RL hF|u_c stepG_skip RL hF|u_op RL hF|u_skip RL hF)
     u_in RL hF
     refine goes_oper_k rfl rfl (by decide) (fun Kx hKx=>?_)
     have hcv:=run_convert_to_unsafe (P:=Tryz.prog) H.underlying_tWgP H.underlying_tUP H.room_tWg (WgLive.cell0 (hLv _ hF)).choose_spec
     have hce:=fun es=>events_convert_to_unsafe (P:=Tryz.prog) H.underlying_tWgP H.underlying_tUP H.room_tWg (WgLive.cell0 (hLv _ hF)).choose_spec es
     simp only[wgLink]at hcv hce
     go_simp
     refine hKx _ _ ⟨?_,?_⟩
     · u_none
       intro ex hex
       have hmx:=mem_listed hex
       simp[go_sem,hce]at hmx
     clear hKx Kx hcv hce
     refine Goes.stop (fun y₅ hy₅=>?_)
     replace hF:=RL hF hy₅
     clear hy₅
     refine HG.stop (fun y₆ hy₆=>?_)
     replace hF:=RL hF hy₆
     clear hy₆
     refine⟨rfl,_,stepG_markAt .acquire (by simp) rfl rfl (by decide) rfl Tryz.func81 (by kernel_rfl) (by kernel_rfl) (by kernel_rfl) (by kernel_rfl) (by simp[Act.eval,stA]),?_⟩
     refine⟨m+300,?_⟩
     unfold H0
     walk_nrm
     refine goes_hg (n:=300) (m:=m) ?_
     repeat(first|u_c stepG_region_end RL hF|u_c stepG_seq RL hF|u_reg RL hF|u_cnd true RL hF|u_cnd false RL hF|u_c stepG_skip RL hF|u_op RL hF|u_skip RL hF)
     u_c stepG_ret' RL hF
     u_leave0 Tryz.func53 RL hF
     refine Goes.stop (fun w₉ h₉=>?_)
     exact hT _ (RL hF h₉)
   · refine⟨_,stepG_cas_miss (v:=(v':Int)*KK) (old:=S) (n:=S+1) rfl rfl (by decide) rfl Tryz.func100 (by kernel_rfl) (by kernel_rfl) (by kernel_rfl) .u64 (by kernel_rfl) rfl rfl rfl hw.cellSt (hw.thaw 0) (by rw[←hS];simp only[KK];omega),300,?_⟩
     clear hw
     unfold H0
     walk_nrm
     refine goes_hg (n:=300) (m:=0) ?_
     repeat(first|u_c stepG_region_end RL hF|u_c stepG_seq RL hF|u_reg RL hF|u_cnd true RL hF|u_cnd false RL hF|u_c stepG_skip RL hF|u_op RL hF|u_skip RL hF)
     u_c stepG_ret' RL hF
     u_leave1 Tryz.func83 RL hF
     repeat(first|u_c stepG_region_end RL hF|u_c stepG_seq RL hF|u_reg RL hF|u_cnd true RL hF|u_cnd false RL hF|u_c stepG_skip RL hF|u_op RL hF|u_skip RL hF)
     u_c stepG_inBlock RL hF
     u_c stepG_inLoop RL hF
     refine Goes.stop (fun y₇ hy₇=>?_)
     replace hF:=RL hF hy₇
     clear hy₇
     refine HG.stop (fun y₈ hy₈=>?_)
     replace hF:=RL hF hy₈
     clear hy₈
     exact hA _ _ hF ⟨_,rfl,by simp,by simp⟩
end
end
section
open Go.Conc Go.RowKit Go.ConcR.Gen
open Go.ConcN.Gen
def seqTl(c:Code):Code:=match c with | .seq _ c=>c|_=> .skip
def dlCx(f:Func):Nat→Code
 | 0=>match f.body with|some c=>c|_=> .skip
 |n+1=>seqTl (dlCx f n)
def dlL1x(f:Func):Code:=match dlCx f 4 with | .seq (.seq _ (.block _ (.loop c))) _=>c|_=> .skip
def dlL2x(f:Func):Code:=match dlCx f 6 with | .seq (.seq _ (.block _ (.loop c))) _=>c|_=> .skip
def dlL3x(f:Func):Code:=match dlCx f 10 with | .seq (.seq _ (.block _ (.loop c))) _=>c|_=> .skip
def dlB2x(f:Func):Code:=match dlL2x f with | .seq _ (.block _ (.seq _ c))=>c|_=> .skip
def dlR15x(f:Func):Array Oper:=match dlB2x f with | .seq (.region _ ops _) _=>ops|_ => #[]
def dlR23x(f:Func):Array Oper:=match dlL3x f with | .seq (.region _ ops _) _=>ops|_ => #[]
structure DlP where
 p:LnP
 wb:Nat
 wc:Nat
 hs:Int
 c:Frame
 cs:List Frame
def DlP.ws(d:DlP):Value:= .slice (some ⟨d.wb,0,none⟩) d.p.N d.wc
def gotC(tk:Nat→Option Value)(k:Nat):Value:=match tk (k / 3)with
 |some (.agg ⟨[a,b,c]⟩)=>if k % 3=0 then a else if k % 3=1 then b else c
 | _=>if k % 3=0 then .slice none 0 0 else if k % 3=1 then .int .i64 0 else .bool false
def gotA(n:Nat)(tk:Nat→Option Value):Array Value:=Array.ofFn (n:=3*n) fun k=>gotC tk k
def IsBg(d:DlP)(O:Nat→Prop)(bg:Nat):Prop:=O bg∧(∀b,O b→bg≤b)∧¬d.p.rd bg∧bg≠d.p.Wg∧d.p.bO<bg
theorem IsBg.eq {d:DlP}{O:Nat→Prop}{b c:Nat}(h:IsBg d O b)(k:IsBg d O c):b=c:=Nat.le_antisymm (h.2.1 c k.1) (k.2.1 b h.1)
def DlH(d:DlP)(bg i:Nat)(fr:Frame):Prop:=∃v3 v4 v12 v13 v14 v15 v16 v17 v18 v19 v20 v21 v22 v23 v24 v25 v26 v27 v28 v29 v30 v31 v32 v33 v34 v35 v36 v37 v38 v39 v40 v41 v42 v43 v44 v45 v46 v47 v48 v49 v50 v51 v52 v53 v54 v55 v56 v57 v58 v59 v60 v61 v62 v63 v64 v65:Value,fr=(base 25).at ⟨#[d.ws,.int .i64 d.hs,fnV d.p.T d.p.b6 d.p.b7 d.p.b8,v3,v4,.pointer (some ⟨d.p.bM,0,none⟩),.slice none 0 0,.pointer (some ⟨d.p.bO,0,none⟩),.pointer (some ⟨d.p.bB,0,none⟩),.pointer (some ⟨d.p.Wg,0,none⟩),.slice (some ⟨bg,0,none⟩) d.p.N d.p.N,.int .i64 i,v12,v13,v14,v15,v16,v17,v18,v19,v20,v21,v22,v23,v24,v25,v26,v27,v28,v29,v30,v31,v32,v33,v34,v35,v36,v37,v38,v39,v40,v41,v42,v43,v44,v45,v46,v47,v48,v49,v50,v51,v52,v53,v54,v55,v56,v57,v58,v59,v60,v61,v62,v63,v64,v65],[]⟩ [.code (dlL2x Tryz.f25),.inLoop (dlL2x Tryz.f25),.inBlock 2,.code ((dlCx Tryz.f25) 7)]
def SelF(d:DlP)(i:Nat)(O:Nat→Prop)(fr:Frame)(cs:List Frame):Prop:=∃bg,IsBg d O bg∧cs=d.c::d.cs∧∃v3 v4 v12 v13 v14 v15 v16 v17 v18 v19 v20 v21 v22 v23 v24 v25 v26 v27 v28 v29 v30 v32 v33 v34 v35 v36 v39 v40 v41 v42 v43 v44 v45 v46 v47 v48 v49 v50 v51 v52 v53 v54 v55 v56 v57 v58 v59 v60 v61 v62 v63 v64 v65:Value,fr=(base 25).at ⟨#[d.ws,.int .i64 d.hs,fnV d.p.T d.p.b6 d.p.b7 d.p.b8,v3,v4,.pointer (some ⟨d.p.bM,0,none⟩),.slice none 0 0,.pointer (some ⟨d.p.bO,0,none⟩),.pointer (some ⟨d.p.bB,0,none⟩),.pointer (some ⟨d.p.Wg,0,none⟩),.slice (some ⟨bg,0,none⟩) d.p.N d.p.N,.int .i64 i,v12,v13,v14,v15,v16,v17,v18,v19,v20,v21,v22,v23,v24,v25,v26,v27,v28,v29,v30,.chan (some d.p.cO),v32,v33,v34,v35,v36,(d.p.Kx Tryz.prog).sv i,.chan (some d.p.cB),v39,v40,v41,v42,v43,v44,v45,v46,v47,v48,v49,v50,v51,v52,v53,v54,v55,v56,v57,v58,v59,v60,v61,v62,v63,v64,v65],[]⟩ [.inRegion (dlR15x Tryz.f25) [0,1,2,3],.code (seqTl (dlB2x Tryz.f25)),.inBlock 3,.inLoop (dlL2x Tryz.f25),.inBlock 2,.code ((dlCx Tryz.f25) 7)]
def RngF(d:DlP)(O:Nat→Prop)(fr:Frame)(cs:List Frame):Prop:=∃bg,IsBg d O bg∧cs=d.c::d.cs∧∃v3 v4 v11 v12 v13 v14 v15 v16 v17 v18 v19 v20 v21 v22 v23 v24 v25 v26 v27 v28 v29 v30 v31 v32 v33 v34 v35 v36 v37 v38 v39 v40 v41 v42 v43 v44 v45 v46 v47 v48 v49 v50 v51 v52 v53 v54 v56 v57 v58 v59 v60 v61 v62 v63 v64 v65:Value,fr=(base 25).at ⟨#[d.ws,.int .i64 d.hs,fnV d.p.T d.p.b6 d.p.b7 d.p.b8,v3,v4,.pointer (some ⟨d.p.bM,0,none⟩),.slice none 0 0,.pointer (some ⟨d.p.bO,0,none⟩),.pointer (some ⟨d.p.bB,0,none⟩),.pointer (some ⟨d.p.Wg,0,none⟩),.slice (some ⟨bg,0,none⟩) d.p.N d.p.N,v11,v12,v13,v14,v15,v16,v17,v18,v19,v20,v21,v22,v23,v24,v25,v26,v27,v28,v29,v30,v31,v32,v33,v34,v35,v36,v37,v38,v39,v40,v41,v42,v43,v44,v45,v46,v47,v48,v49,v50,v51,v52,v53,v54,.chan (some d.p.cB),v56,v57,v58,v59,v60,v61,v62,v63,v64,v65],[]⟩ [.inRegion (dlR23x Tryz.f25) [0,1],.code (seqTl (dlL3x Tryz.f25)),.inLoop (dlL3x Tryz.f25),.inBlock 5,.code ((dlCx Tryz.f25) 11)]
def zTold:Value:= .agg #[.int .i64 0,.slice none 0 0,.int .i64 0,.bool false]
def FinF(d:DlP)(tk:Nat→Option Value)(O:Nat→Prop)(g:Goroutine)(w:World):Prop:=∃bg,IsBg d O bg∧w.heap[bg]?=some (.cells (gotA d.p.N tk) 39)∧g=G (d.c.finish (.slice (some ⟨bg,0,none⟩) d.p.N d.p.N)) d.cs
def GotF(d:DlP)(tk:Nat→Option Value)(O:Nat→Prop)(w:World):Prop:=∃bg,IsBg d O bg∧w.heap[bg]?=some (.cells (gotA d.p.N tk) 39)
section
variable {d:DlP}{O:Nat→Prop}{w w1:World}{tk:Nat→Option Value}{i:Nat}{fr:Frame}
structure DlP.Ok(d:DlP)(tM:TypeId):Prop where
 ok:d.p.Ok tM
 rw:d.p.rd d.wb
 ws:∀w i,Rdx (d.p.Kx Tryz.prog) w→i<d.p.N→w.cell? ⟨d.wb,i,none⟩=some (.slice (d.p.wo i) (d.p.wn i) (d.p.wc i))
 N:d.p.N<1000000
 cap:d.p.N≤d.wc
 Sel:d.p.Sel=SelF d
 Rng:d.p.Rng=RngF d
 Got:d.p.Got=GotF d
 Fin:d.p.Fin=FinF d
 zB:d.p.zB=zTold
theorem wgl_rely {p:LnP}(r:Rly p.rd (Lvx (p.Kx Tryz.prog)) O w w1)(h:Lvx (p.Kx Tryz.prog) w∧Rdx (p.Kx Tryz.prog) w):Lvx (p.Kx Tryz.prog) w1∧Rdx (p.Kx Tryz.prog) w1:=⟨r.lv h.1,fun b hb=>(r.stb b (Or.inl hb)).trans (h.2 b hb)⟩
def DlF(d:DlP)(bg:Nat)(tk:Nat→Option Value)(w:World):Prop:=(Lvx (d.p.Kx Tryz.prog) w∧Rdx (d.p.Kx Tryz.prog) w)∧w.heap[bg]?=some (.cells (gotA d.p.N tk) 39)
theorem dlf_rely {bg:Nat}(hO:O bg):∀ {w w1},DlF d bg tk w→Rly d.p.rd (Lvx (d.p.Kx Tryz.prog)) O w w1→DlF d bg tk w1:=fun h r=>⟨wgl_rely r h.1,(r.stb _ (Or.inr hO)).trans h.2⟩
set_option maxRecDepth 100000 in
theorem sent_build(i:Int)(o:Option Addr)(n c:Nat)(w1:World):(Instr.build 98 #[(0,.int .i64 i),(1,.slice o n c)]).run Tryz.prog w1 = .ok (.agg #[.int .i64 i,.slice o n c]) w1:=run_build w1 _ _ _ (by kernel_rfl)
theorem sent_ev(i:Int)(o:Option Addr)(n c:Nat)(w1:World):(Instr.build 98 #[(0,.int .i64 i),(1,.slice o n c)]).events Tryz.prog w1 #[] = #[]:=by
 unfold Instr.build
 simp[go_sem]
set_option maxRecDepth 100000 in
set_option maxHeartbeats 8000000 in
theorem dl_more {tM:TypeId}{bg:Nat}(h:d.Ok tM)(hB:IsBg d O bg)(hi:i<d.p.N)(hF:DlF d bg tk w)(hH:DlH d bg i fr):H0 (d.p.Kx Tryz.prog) (AtSel (d.p.Kx Tryz.prog) i tk) 200 O (G fr (d.c::d.cs)) w:=by
 have RL:∀ {w w1},DlF d bg tk w→Rly d.p.rd (Lvx (d.p.Kx Tryz.prog)) O w w1→DlF d bg tk w1:=dlf_rely hB.1
 obtain⟨v3,v4,v12,v13,v14,v15,v16,v17,v18,v19,v20,v21,v22,v23,v24,v25,v26,v27,v28,v29,v30,v31,v32,v33,v34,v35,v36,v37,v38,v39,v40,v41,v42,v43,v44,v45,v46,v47,v48,v49,v50,v51,v52,v53,v54,v55,v56,v57,v58,v59,v60,v61,v62,v63,v64,v65,rfl⟩:=hH
 have hN:=h.N
 have q1:decide ((i:Int)<(d.p.N:Int))=true:=decide_eq_true (by omega)
 have hS:∀(v3 v4 v12 v13 v14 v15 v16 v17 v18 v19 v20 v21 v22 v23 v24 v25 v26 v27 v28 v29 v30 v32 v33 v34 v35 v36 v39 v40 v41 v42 v43 v44 v45 v46 v47 v48 v49 v50 v51 v52 v53 v54 v55 v56 v57 v58 v59 v60 v61 v62 v63 v64 v65:Value) (w:World),DlF d bg tk w→AtSel (d.p.Kx Tryz.prog) i tk O (G ((base 25).at ⟨#[d.ws,.int .i64 d.hs,fnV d.p.T d.p.b6 d.p.b7 d.p.b8,v3,v4,.pointer (some ⟨d.p.bM,0,none⟩),.slice none 0 0,.pointer (some ⟨d.p.bO,0,none⟩),.pointer (some ⟨d.p.bB,0,none⟩),.pointer (some ⟨d.p.Wg,0,none⟩),.slice (some ⟨bg,0,none⟩) d.p.N d.p.N,.int .i64 i,v12,v13,v14,v15,v16,v17,v18,v19,v20,v21,v22,v23,v24,v25,v26,v27,v28,v29,v30,.chan (some d.p.cO),v32,v33,v34,v35,v36,(d.p.Kx Tryz.prog).sv i,.chan (some d.p.cB),v39,v40,v41,v42,v43,v44,v45,v46,v47,v48,v49,v50,v51,v52,v53,v54,v55,v56,v57,v58,v59,v60,v61,v62,v63,v64,v65],[]⟩ [.inRegion (dlR15x Tryz.f25) [0,1,2,3],.code (seqTl (dlB2x Tryz.f25)),.inBlock 3,.inLoop (dlL2x Tryz.f25),.inBlock 2,.code ((dlCx Tryz.f25) 7)]) (d.c::d.cs)) w:=fun v3 v4 v12 v13 v14 v15 v16 v17 v18 v19 v20 v21 v22 v23 v24 v25 v26 v27 v28 v29 v30 v32 v33 v34 v35 v36 v39 v40 v41 v42 v43 v44 v45 v46 v47 v48 v49 v50 v51 v52 v53 v54 v55 v56 v57 v58 v59 v60 v61 v62 v63 v64 v65 w hF=>⟨_,_,rfl,by
  show d.p.Sel i O _ _
  rw[h.Sel]
  exact⟨bg,hB,rfl,v3,v4,v12,v13,v14,v15,v16,v17,v18,v19,v20,v21,v22,v23,v24,v25,v26,v27,v28,v29,v30,v32,v33,v34,v35,v36,v39,v40,v41,v42,v43,v44,v45,v46,v47,v48,v49,v50,v51,v52,v53,v54,v55,v56,v57,v58,v59,v60,v61,v62,v63,v64,v65,rfl⟩,by
  show d.p.Got tk O w
  rw[h.Got]
  exact⟨bg,hB,hF.2⟩⟩
 unfold H0
 generalize AtSel (d.p.Kx Tryz.prog) i tk=Stop at hS ⊢
 generalize (dlCx Tryz.f25) 7=c7 at hS ⊢
 simp only[dlL2x,dlR15x,dlB2x,seqTl,dlCx,Tryz.f25]at hS ⊢
 simp only[DlP.ws]at hS ⊢
 refine goes_hg (n:=40) (m:=160) ?_
 repeat(first|u_c stepG_region_end RL hF|u_c stepG_seq RL hF|u_reg RL hF|u_cnd true RL hF|u_cnd false RL hF|u_c stepG_skip RL hF|u_op RL hF|u_skip RL hF)
 u_c stepG_block RL hF
 repeat(first|u_c stepG_region_end RL hF|u_c stepG_seq RL hF|u_reg RL hF|u_cnd true RL hF|u_cnd false RL hF|u_c stepG_skip RL hF|u_op RL hF|u_skip RL hF)
 refine Goes.stop (fun w₁ h₁=>?_)
 replace hF:=RL hF h₁
 clear h₁
 have hd:=h.ok.hdw hF.1.2
 refine hg_load (.chan (some d.p.cO)) rfl rfl (by decide) (Or.inl hd.rO) hd.cO (fun w1 h1=>by go_simp) (fun w1 h1=>by simp[go_sem, *]) ?_
 walk_nrm
 refine hg_up 39 (n:=120) ?_
 refine goes_hg (n:=40) (m:=80) ?_
 repeat(first|u_c stepG_region_end RL hF|u_c stepG_seq RL hF|u_reg RL hF|u_cnd true RL hF|u_cnd false RL hF|u_c stepG_skip RL hF|u_op RL hF|u_skip RL hF)
 refine Goes.stop (fun w₁ h₁=>?_)
 replace hF:=RL hF h₁
 clear h₁
 have hw:=h.ws _ i hF.1.2 hi
 refine hg_up 39 (n:=41) ?_
 refine hg_load (.slice (d.p.wo i) (d.p.wn i) (d.p.wc i)) rfl rfl (by decide) (Or.inl h.rw) hw (fun w1 h1=>by go_simp) (fun w1 h1=>by simp[go_sem, *]) ?_
 walk_nrm
 refine hg_value (.agg #[.int .i64 i,.slice (d.p.wo i) (d.p.wn i) (d.p.wc i)]) rfl rfl (by decide) (fun w1 h1=>?_) (fun w1 h1 e he=>?_) ?_
 ·have hb:=sent_build i (d.p.wo i) (d.p.wn i) (d.p.wc i) w1
  go_simp
 ·have hb:=sent_ev i (d.p.wo i) (d.p.wn i) (d.p.wc i) w1
  simp[go_sem, *]at he
 walk_nrm
 refine hg_up 19 (n:=20) ?_
 refine goes_hg (n:=10) (m:=10) ?_
 repeat(first|u_c stepG_region_end RL hF|u_c stepG_seq RL hF|u_reg RL hF|u_cnd true RL hF|u_cnd false RL hF|u_c stepG_skip RL hF|u_op RL hF|u_skip RL hF)
 refine Goes.stop (fun w₁ h₁=>?_)
 replace hF:=RL hF h₁
 clear h₁
 have hd:=h.ok.hdw hF.1.2
 refine hg_load (.chan (some d.p.cB)) rfl rfl (by decide) (Or.inl hd.rB) hd.cB (fun w1 h1=>by go_simp) (fun w1 h1=>by simp[go_sem, *]) ?_
 walk_nrm
 refine goes_hg (n:=9) (m:=0) ?_
 repeat(first|u_c stepG_region_end RL hF|u_c stepG_seq RL hF|u_reg RL hF|u_cnd true RL hF|u_cnd false RL hF|u_c stepG_skip RL hF|u_op RL hF|u_skip RL hF)
 refine Goes.stop (fun w₁ h₁=>?_)
 replace hF:=RL hF h₁
 clear h₁
 refine HG.stop (fun w₂ h₂=>?_)
 exact hS _ _ _ _ _ _ _ _ _ _ _ _ _ _ _ _ _ _ _ _ _ _ _ _ _ _ _ _ _ _ _ _ _ _ _ _ _ _ _ _ _ _ _ _ _ _ _ _ _ _ _ _ _ w₂ (RL hF h₂)
end
end
section
open Go.Conc Go.RowKit Go.ConcR.Gen
open Go.ConcN.Gen
section
variable {d:DlP}{O:Nat→Prop}{w w1:World}{tk:Nat→Option Value}{i:Nat}{fr:Frame}{cs:List Frame}{tM:TypeId}
theorem hg_leave {P:Program}{main:Bool}{rd:Nat→Prop}{Lv:World→Prop}{Stop:(Nat→Prop)→Goroutine→World→Prop}{n:Nat}{b c:Frame}{a:Act}{todo:List Item}{fn:Func}(v:Value)(hn:b.kind = .normal)(hd:a.defers=[])(hf:P.funcs[b.fn]?=some fn)
  (hr:∀w1:World,(results fn a.tmps).run P w1 = .ok v w1) (he:∀w1:World,(results fn a.tmps).events P w1 #[] = #[])
  (hc:HG P main rd Lv Stop n O (G (c.finish v) cs) w):HG P main rd Lv Stop (n+1) O (G { b.at a todo with mode:= .returning } (c::cs)) w:=by
 refine HG.step rfl fun w1 r=>?_
 have hst:stepG P main (G { b.at a todo with mode:= .returning } (c::cs)) w1 = .go (G (c.finish v) cs) w1 #[]:=by
  simp[G,stepG,unwind,doReturn,Frame.at,hn,hd,hf,hr w1,he w1,GStep.after,seen_none]
 rw[hst]
 exact⟨Stp.idle rd O w1,by rw[grw_idle];exact hc.rely r⟩
set_option maxRecDepth 100000 in
set_option maxHeartbeats 4000000 in
theorem dl_rng(h:d.Ok tM)(hR:RngF d O fr cs)(w:World):stepG Tryz.prog true (G fr cs) w = .comm (G fr cs) #[rcase d.p.cB d.p.zB] true (.recv true) w #[]:=by
 obtain⟨bg,_,rfl,v3,v4,v11,v12,v13,v14,v15,v16,v17,v18,v19,v20,v21,v22,v23,v24,v25,v26,v27,v28,v29,v30,v31,v32,v33,v34,v35,v36,v37,v38,v39,v40,v41,v42,v43,v44,v45,v46,v47,v48,v49,v50,v51,v52,v53,v54,v56,v57,v58,v59,v60,v61,v62,v63,v64,v65,rfl⟩:=hR
 rw[h.zB]
 generalize seqTl (dlL3x Tryz.f25)=c1
 generalize hL:(dlL3x Tryz.f25)=c2
 generalize (dlCx Tryz.f25) 11=c3
 simp only[dlR23x,dlL3x,dlCx,seqTl,Tryz.f25]
 have e:∀(g:Goroutine) (E E':Array Event),E = #[]→stepG Tryz.prog true g w=GStep.comm g #[rcase d.p.cB zTold] true (.recv true) w E→stepG Tryz.prog true g w=GStep.comm g #[rcase d.p.cB zTold] true (.recv true) w #[]:=fun g E E' h h'=>by rw[h',h]
 refine e _ _ #[] ?_ (stepG_comm (cases := #[rcase d.p.cB zTold]) (blocking:=true) (shape:= .recv true) (w':=w) rfl rfl (by decide) (by go_simp;rfl))
 unfold listed
 have h0:∀E:Array Event,E = #[]→seen Tryz.prog 25 E = #[]:=fun E h=>by rw[h,seen_none]
 refine h0 _ ?_
 simp[go_sem]
set_option maxRecDepth 100000 in
set_option maxHeartbeats 8000000 in
theorem dl_over(h:d.Ok tM)(hR:RngF d O fr cs)(hG:GotF d tk O w)(hlv:Lvx (d.p.Kx Tryz.prog) w)(hrd:Rdx (d.p.Kx Tryz.prog) w):H0 (d.p.Kx Tryz.prog) (d.p.Fin tk) 60 O (G (fr.finish (recvd true d.p.zB false)) cs) w:=by
 obtain⟨bg,hB,rfl,v3,v4,v11,v12,v13,v14,v15,v16,v17,v18,v19,v20,v21,v22,v23,v24,v25,v26,v27,v28,v29,v30,v31,v32,v33,v34,v35,v36,v37,v38,v39,v40,v41,v42,v43,v44,v45,v46,v47,v48,v49,v50,v51,v52,v53,v54,v56,v57,v58,v59,v60,v61,v62,v63,v64,v65,rfl⟩:=hR
 obtain⟨bg',hB',hG⟩:=hG
 obtain rfl:=hB.eq hB'
 have RL:∀ {w w1},DlF d bg tk w→Rly d.p.rd (Lvx (d.p.Kx Tryz.prog)) O w w1→DlF d bg tk w1:=dlf_rely hB.1
 have hF:DlF d bg tk w:=⟨⟨hlv,hrd⟩,hG⟩
 rw[h.Fin,h.zB,Frame.finish_at]
 have hS:∀w,DlF d bg tk w→FinF d tk O (G (d.c.finish (.slice (some ⟨bg,0,none⟩) d.p.N d.p.N)) d.cs) w:=fun w hF=>⟨bg,hB,hF.2,rfl⟩
 unfold H0
 generalize FinF d tk=Stop at hS ⊢
 generalize d.c=c at hS ⊢
 simp only[recvd,dlR23x,dlL3x,dlCx,seqTl,Tryz.f25]
 walk_nrm
 refine goes_hg (n:=59) (m:=1) ?_
 repeat(first|u_c stepG_region_end RL hF|u_c stepG_seq RL hF|u_reg RL hF|u_cnd true RL hF|u_cnd false RL hF|u_c stepG_skip RL hF|u_op RL hF|u_skip RL hF)
 u_exit RL hF
 repeat(first|u_c stepG_region_end RL hF|u_c stepG_seq RL hF|u_reg RL hF|u_cnd true RL hF|u_cnd false RL hF|u_c stepG_skip RL hF|u_op RL hF|u_skip RL hF)
 u_c stepG_ret' RL hF
 refine Goes.stop (fun w₁ h₁=>?_)
 replace hF:=RL hF h₁
 clear h₁
 refine hg_leave (n:=0) (fn:=Tryz.f25) (.slice (some ⟨bg,0,none⟩) d.p.N d.p.N) rfl rfl Tryz.func25 (fun w1=>by simp only[Tryz.f25,results];go_simp) (fun w1=>by simp only[Tryz.f25];simp[go_sem,results]) ?_
 refine HG.stop (fun w₂ h₂=>?_)
 exact hS w₂ (RL hF h₂)
end
end
section
open Go.Conc Go.RowKit Go.ConcR.Gen
theorem gotC_set {tk:Nat→Option Value}{j k:Nat}{a b c:Value}:gotC (fun x=>if x=j then some (.agg #[a,b,c])else tk x) k=if k / 3=j then(if k % 3=0 then a else if k % 3=1 then b else c)else gotC tk k:=by
 unfold gotC
 by_cases h:k / 3=j
 ·simp only[h,if_true]
 ·simp only[h,if_false]
theorem gotA_get {n:Nat}{tk:Nat→Option Value}{k:Nat}(h:k<3*n):(gotA n tk)[k]?=some (gotC tk k):=by
 simp[gotA,h]
theorem gotA_size {n:Nat}{tk:Nat→Option Value}:(gotA n tk).size=3*n:=by simp[gotA]
theorem gotA_set {n j:Nat}{tk:Nat→Option Value}{a b c:Value}(hj:j<n):((((gotA n tk).setIfInBounds (3*j) a).setIfInBounds (3*j+1) b).setIfInBounds (3*j+2) c)=gotA n (fun x=>if x=j then some (.agg #[a,b,c])else tk x):=by
 refine Array.ext_getElem? fun k=>?_
 by_cases hk:k<3*n
 ·rw[gotA_get hk,gotC_set]
  simp only[Array.getElem?_setIfInBounds,Array.size_setIfInBounds,gotA_size,gotA_get hk]
  by_cases h2:3*j+2=k
  ·rw[if_pos h2,if_pos (by omega),if_pos (by omega),if_neg (by omega),if_neg (by omega)]
  ·rw[if_neg h2]
   by_cases h1:3*j+1=k
   ·rw[if_pos h1,if_pos (by omega),if_pos (by omega),if_neg (by omega),if_pos (by omega)]
   ·rw[if_neg h1]
    by_cases h0:3*j=k
    ·rw[if_pos h0,if_pos (by omega),if_pos (by omega),if_pos (by omega)]
    ·rw[if_neg h0,if_neg (by omega)]
 ·rw[Array.getElem?_eq_none (by simp[gotA_size];omega),Array.getElem?_eq_none (by simp[gotA_size];omega)]
section
variable {P:Program}{main:Bool}{rd:Nat→Prop}{Lv:World→Prop}{O:Nat→Prop}{w w1:World}{Stop:(Nat→Prop)→Goroutine→World→Prop}{n:Nat}{F:World→Prop}{b:Frame}{a:Act}{ops:Array Oper}{i:Nat}{rest:List Nat}{k:List Item}{cs:List Frame}{o:Oper}
theorem hg_alloc2(RL:∀ {w w1:World}, F w→Rly rd Lv O w w1→F w1)(hF:F w)(X:Obj)(ho:ops[i]?=some o)(hw:Region.wanted o (yielded ops a.tmps)=true)(hk:b.kind ≠ .early)(hr:∀w1:World, (execOp a.eval o).run P w1 = .ok (.value (.pointer (some ⟨w1.heap.size, 0, none⟩))) { w1 with heap:=w1.heap.push X })(he:∀w1:World, (execOp a.eval o).events P w1 #[] = #[])
  (hn:∀w1,F w1→HG P main rd Lv Stop n (fun y=>O y∨y=w1.heap.size) (G (b.at (a.put o.dst (.pointer (some ⟨w1.heap.size,0,none⟩))) (.inRegion ops rest::k)) cs) { w1 with heap:=w1.heap.push X }):HG P main rd Lv Stop (n+1) O (G (b.at a (.inRegion ops (i::rest)::k)) cs) w:=
 hg_new (fun _=>X) ho hw hk (fun w1 _=>hr w1) (fun w1 _=>he w1) (fun w1 h1=>hn w1 (RL hF h1))
theorem hg_stores {x:Nat}{C C':Array Value}{t:TypeId}{f:World→World}{es:Array Event}(RL:∀ {w w1:World}, F w→Rly rd Lv O w w1→F w1)(hF:F w)(hx:O x)(hX:∀w, F w→w.heap[x]?=some (.cells C t))(ho:ops[i]?=some o)(hw:Region.wanted o (yielded ops a.tmps)=true)(hk:b.kind ≠ .early)
  (hf:∀w1:World,w1.heap[x]?=some (.cells C t)→(f w1).heap[x]?=some (.cells C' t)∧(f w1).heap.size=w1.heap.size∧((f w1).tape=w1.tape∧(f w1).os=w1.os∧(f w1).output=w1.output)∧∀y,y≠x→(f w1).heap[y]?=w1.heap[y]?)
  (hr:∀w1:World,w1.heap[x]?=some (.cells C t)→(execOp a.eval o).run P w1 = .ok .skip (f w1))
  (he:∀w1:World,w1.heap[x]?=some (.cells C t)→(execOp a.eval o).events P w1 #[]=es) (hes:∀e,e∈es→∃off,e=⟨.cell ⟨x,off,none⟩,true,false⟩)
  (hn:∀w1 w2,F w1→(∀y,y≠x→w2.heap[y]?=w1.heap[y]?)→w2.heap.size=w1.heap.size→w2.heap[x]?=some (.cells C' t)→HG P main rd Lv Stop n O (G (b.at (a.put o.dst undef) (.inRegion ops rest::k)) cs) w2):HG P main rd Lv Stop (n+1) O (G (b.at a (.inRegion ops (i::rest)::k)) cs) w:=by
 have h1:∀w1,Rly rd Lv O w w1→w1.heap[x]?=some (.cells C t):=fun w1 r=>hX w1 (RL hF r)
 refine hg_store f ho hw hk (fun w1 r=>hr w1 (h1 w1 r)) (fun w1 r=>⟨(hf w1 (h1 w1 r)).2.1,(hf w1 (h1 w1 r)).2.2.1,fun y hy=>(hf w1 (h1 w1 r)).2.2.2 y fun e=>hy (e▸hx)⟩) (fun w1 r e hm=>?_) (fun w1 r=>hn w1 _ (RL hF r) (hf w1 (h1 w1 r)).2.2.2 (hf w1 (h1 w1 r)).2.1 (hf w1 (h1 w1 r)).1)
 rw[he w1 (h1 w1 r)]at hm
 obtain⟨off,rfl⟩:=hes e hm
 exact⟨rfl,lt_of_some (h1 w1 r),Or.inl hx⟩
end
section
variable {d:DlP}{O:Nat→Prop}{w w1:World}{tk:Nat→Option Value}{bg x:Nat}{tM:TypeId}
theorem dlf_keep(h:d.Ok tM)(hk:∀b,b<w.heap.size→b≠x→w1.heap[b]?=w.heap[b]?)(hx:¬d.p.rd x∧x≠bg∧x≠d.p.Wg)(hF:DlF d bg tk w):DlF d bg tk w1:=by
 obtain⟨⟨⟨st,sm,hl⟩,hr⟩,hg⟩:=hF
 have hd:=h.ok.hdw hr
 refine⟨⟨⟨st,sm,?_⟩,fun b hb=>?_⟩,?_⟩
 ·exact(hk _ (lt_of_some hl) fun e=>hx.2.2 e.symm).trans hl
 ·exact(hk b (hd.lt b hb) fun e=>hx.1 (e▸hb)).trans (hr b hb)
 ·exact(hk bg (lt_of_some hg) fun e=>hx.2.1 e.symm).trans hg
end
end
section
open Go.Conc Go.RowKit Go.ConcR.Gen
open Go.ConcN.Gen
section
variable {d:DlP}{O:Nat→Prop}{w w1:World}{tk:Nat→Option Value}{i j:Nat}{fr:Frame}{cs:List Frame}{tM:TypeId}{go:Option Addr}{gn gc:Nat}{e:Int}{l:Bool}
theorem selV_one {K:Cfg}{v:Value}{ok:Bool}:selV K 1 v ok i = .tuple #[.int .i64 1,.bool ok,v]:=by
 simp[selV,commResult,scase,rcase,goInt]
theorem selV_nil {K:Cfg}{v:Value}{ok:Bool}:selV K 0 v ok i = .tuple #[.int .i64 0,.bool ok,K.zB]:=by
 simp[selV,commResult,scase,rcase,goInt]
set_option maxRecDepth 100000 in
set_option maxHeartbeats 8000000 in
theorem dl_sent(h:d.Ok tM)(hR:SelF d i O fr cs)(hG:GotF d tk O w)(hlv:Lvx (d.p.Kx Tryz.prog) w)(hrd:Rdx (d.p.Kx Tryz.prog) w){Stop:(Nat→Prop)→Goroutine→World→Prop}{m:Nat}
  (hN:∀bg w fr,IsBg d O bg→DlF d bg tk w→DlH d bg (i+1) fr→H0 (d.p.Kx Tryz.prog) Stop m O (G fr (d.c::d.cs)) w) (hi:i<d.p.N):H0 (d.p.Kx Tryz.prog) Stop (m+60) O (G (fr.finish (selV (d.p.Kx Tryz.prog) 0 undef false i)) cs) w:=by
 obtain⟨bg,hB,rfl,v3,v4,v12,v13,v14,v15,v16,v17,v18,v19,v20,v21,v22,v23,v24,v25,v26,v27,v28,v29,v30,v32,v33,v34,v35,v36,v39,v40,v41,v42,v43,v44,v45,v46,v47,v48,v49,v50,v51,v52,v53,v54,v55,v56,v57,v58,v59,v60,v61,v62,v63,v64,v65,rfl⟩:=hR
 obtain⟨bg',hB',hG⟩:=hG
 obtain rfl:=hB.eq hB'
 have RL:∀ {w w1},DlF d bg tk w→Rly d.p.rd (Lvx (d.p.Kx Tryz.prog)) O w w1→DlF d bg tk w1:=dlf_rely hB.1
 have hF:DlF d bg tk w:=⟨⟨hlv,hrd⟩,hG⟩
 have hNN:=h.N
 have z1:IntKind.i64.wrap ((i:Int)+1)=((i+1:Nat):Int):=by simp only[IntKind.wrap,go_sem];simp;omega
 rw[Frame.finish_at,selV_nil]
 have hS:∀(v3 v4 v12 v13 v14 v15 v16 v17 v18 v19 v20 v21 v22 v23 v24 v25 v26 v27 v28 v29 v30 v31 v32 v33 v34 v35 v36 v37 v38 v39 v40 v41 v42 v43 v44 v45 v46 v47 v48 v49 v50 v51 v52 v53 v54 v55 v56 v57 v58 v59 v60 v61 v62 v63 v64 v65:Value) (w:World),DlF d bg tk w→HG Tryz.prog true d.p.rd (Lvx (d.p.Kx Tryz.prog)) Stop m O (G ((base 25).at ⟨#[d.ws,.int .i64 d.hs,fnV d.p.T d.p.b6 d.p.b7 d.p.b8,v3,v4,.pointer (some ⟨d.p.bM,0,none⟩),.slice none 0 0,.pointer (some ⟨d.p.bO,0,none⟩),.pointer (some ⟨d.p.bB,0,none⟩),.pointer (some ⟨d.p.Wg,0,none⟩),.slice (some ⟨bg,0,none⟩) d.p.N d.p.N,.int .i64 ((i+1:Nat):Int),v12,v13,v14,v15,v16,v17,v18,v19,v20,v21,v22,v23,v24,v25,v26,v27,v28,v29,v30,v31,v32,v33,v34,v35,v36,v37,v38,v39,v40,v41,v42,v43,v44,v45,v46,v47,v48,v49,v50,v51,v52,v53,v54,v55,v56,v57,v58,v59,v60,v61,v62,v63,v64,v65],[]⟩ [.code (dlL2x Tryz.f25),.inLoop (dlL2x Tryz.f25),.inBlock 2,.code ((dlCx Tryz.f25) 7)]) (d.c::d.cs)) w:=fun v3 v4 v12 v13 v14 v15 v16 v17 v18 v19 v20 v21 v22 v23 v24 v25 v26 v27 v28 v29 v30 v31 v32 v33 v34 v35 v36 v37 v38 v39 v40 v41 v42 v43 v44 v45 v46 v47 v48 v49 v50 v51 v52 v53 v54 v55 v56 v57 v58 v59 v60 v61 v62 v63 v64 v65 w hF=>hN bg w _ hB hF ⟨v3,v4,v12,v13,v14,v15,v16,v17,v18,v19,v20,v21,v22,v23,v24,v25,v26,v27,v28,v29,v30,v31,v32,v33,v34,v35,v36,v37,v38,v39,v40,v41,v42,v43,v44,v45,v46,v47,v48,v49,v50,v51,v52,v53,v54,v55,v56,v57,v58,v59,v60,v61,v62,v63,v64,v65,rfl⟩
 clear hN
 unfold H0
 generalize (dlCx Tryz.f25) 7=c7 at hS ⊢
 generalize hL:(dlL2x Tryz.f25)=L2 at hS ⊢
 simp only[dlR15x,dlB2x,dlL2x,dlCx,seqTl,Tryz.f25]
 walk_nrm
 refine goes_hg (n:=60) (m:=m) ?_
 repeat(first|u_c stepG_region_end RL hF|u_c stepG_seq RL hF|u_reg RL hF|u_cnd true RL hF|u_cnd false RL hF|u_c stepG_skip RL hF|u_op RL hF|u_skip RL hF)
 u_c stepG_block RL hF
 repeat(first|u_c stepG_region_end RL hF|u_c stepG_seq RL hF|u_reg RL hF|u_cnd true RL hF|u_cnd false RL hF|u_c stepG_skip RL hF|u_op RL hF|u_skip RL hF)
 u_c stepG_inBlock RL hF
 u_c stepG_inBlock RL hF
 u_c stepG_inLoop RL hF
 refine Goes.stop (fun w₁ h₁=>?_)
 exact hS _ _ _ _ _ _ _ _ _ _ _ _ _ _ _ _ _ _ _ _ _ _ _ _ _ _ _ _ _ _ _ _ _ _ _ _ _ _ _ _ _ _ _ _ _ _ _ _ _ _ _ _ _ _ _ _ w₁ (RL hF h₁)
end
end
end Go.Proofs.YtedifobeggabnaaGreat
