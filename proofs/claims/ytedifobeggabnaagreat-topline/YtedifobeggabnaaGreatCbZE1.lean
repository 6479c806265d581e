/- Texts of ours, one behind the other: ZE1 ZE2 ZE3 ZE4 ZE5 ZE6 ZE7 ZE8 ZE9 ZE10 ZE11. -/
import Derived.Test.YtedifobeggabnaaGreatChecked
import Derived.Conc.WgGenN3
import Derived.Test.YtedifobeggabnaaGreatCbZD8
namespace Go.Proofs.YtedifobeggabnaaGreat
def wgLink:Go.Conc.Lib.WgLink:={ add:=49,done:=51,wait:=53,relMerge:=68,disable:=69,enable:=70,inBubble:=71,associate:=72,fatal:=73,uOr:=74,uAdd:=75,raceRead:=76,uLoad:=77,uStore:=78,disassociate:=79,semrelease:=80,acquire:=81,isAssociated:=82,uCas:=83,raceWrite:=84,semacquire:=85,orU64:=96,addU64:=97,loadU64:=98,storeU64:=99,casU64:=100,tWgP:=120,tUP:=122,tAssoc:=124,tWg:=94,tAU:=91,tU64:=89,tUint:=128,tU32:=92,tPU32:=129,tPAU:=143,tPU64:=145,tNoCopy:=88,tANoCopy:=57,tAlign64:=58 }
theorem wgLib:Go.Conc.Lib.WgLib Tryz.prog wgLink:=
 ⟨Tryz.func49,Tryz.func51,Tryz.func53,Tryz.func68,Tryz.func69,Tryz.func70,Tryz.func71,Tryz.func72,Tryz.func73,Tryz.func74,Tryz.func75,Tryz.func76,Tryz.func77,Tryz.func78,Tryz.func79,Tryz.func80,Tryz.func81,Tryz.func82,Tryz.func83,Tryz.func84,Tryz.func85,Tryz.func96,Tryz.func97,Tryz.func98,Tryz.func99,Tryz.func100,Tryz.underlying120,Tryz.runUnderlying120,Tryz.sizeOf120,Tryz.isAgg120,Tryz.zeroValue120,Tryz.underlying122,Tryz.runUnderlying122,Tryz.sizeOf122,Tryz.isAgg122,Tryz.zeroValue122,Tryz.underlying124,Tryz.runUnderlying124,Tryz.sizeOf124,Tryz.isAgg124,Tryz.zeroValue124,Tryz.underlying94,Tryz.runUnderlying94,Tryz.sizeOf94,Tryz.isAgg94,Tryz.zeroValue94,Tryz.underlying91,Tryz.runUnderlying91,Tryz.sizeOf91,Tryz.isAgg91,Tryz.zeroValue91,Tryz.underlying89,Tryz.runUnderlying89,Tryz.sizeOf89,Tryz.isAgg89,Tryz.zeroValue89,Tryz.underlying128,Tryz.runUnderlying128,Tryz.sizeOf128,Tryz.isAgg128,Tryz.zeroValue128,Tryz.underlying92,Tryz.runUnderlying92,Tryz.sizeOf92,Tryz.isAgg92,Tryz.zeroValue92,Tryz.underlying129,Tryz.runUnderlying129,Tryz.sizeOf129,Tryz.isAgg129,Tryz.zeroValue129,Tryz.underlying143,Tryz.runUnderlying143,Tryz.sizeOf143,Tryz.isAgg143,Tryz.zeroValue143,Tryz.underlying145,Tryz.runUnderlying145,Tryz.sizeOf145,Tryz.isAgg145,Tryz.zeroValue145,Tryz.underlying0,Tryz.runUnderlying0,Tryz.sizeOf0,Tryz.isAgg0,Tryz.zeroValue0,Tryz.underlying3,Tryz.runUnderlying3,Tryz.sizeOf3,Tryz.isAgg3,Tryz.zeroValue3,Tryz.underlying4,Tryz.runUnderlying4,Tryz.sizeOf4,Tryz.isAgg4,Tryz.zeroValue4,Tryz.underlying9,Tryz.runUnderlying9,Tryz.sizeOf9,Tryz.isAgg9,Tryz.zeroValue9,Tryz.underlying20,Tryz.runUnderlying20,Tryz.sizeOf20,Tryz.isAgg20,Tryz.zeroValue20,Tryz.underlying21,Tryz.runUnderlying21,Tryz.sizeOf21,Tryz.isAgg21,Tryz.zeroValue21,(by kernel_rfl),(by kernel_rfl)⟩
section
open Go.Conc Go.RowKit Go.ConcR.Gen
structure HdW(Wg bO bB bM cO cB T b6 b7 b8:Nat)(rd:Nat→Prop)(w:World):Prop where
 cO:w.cell? ⟨bO,0,none⟩=some (.chan (some cO))
 cB:w.cell? ⟨bB,0,none⟩=some (.chan (some cB))
 cM:w.cell? ⟨bM,0,none⟩=some (.func (.func 27) #[] #[.pointer (some ⟨T,0,none⟩),.pointer (some ⟨b6,0,none⟩),.pointer (some ⟨b7,0,none⟩),.pointer (some ⟨b8,0,none⟩)])
 rO:rd bO
 rB:rd bB
 rM:rd bM
 lt:∀b,rd b→b<w.heap.size
theorem cell_sam0 {w w1:World}{b:Nat}(h:w1.heap[b]?=w.heap[b]?)(o:Nat):w1.cell? ⟨b,o,none⟩=w.cell? ⟨b,o,none⟩:=by simp[World.cell?,h]
section
variable {Wg bO bB bM cO cB T b6 b7 b8:Nat}{rd:Nat→Prop}{Lv:World→Prop}{O:Nat→Prop}{w w1:World}{Stop:(Nat→Prop)→Goroutine→World→Prop}
theorem HdW.rely(h:HdW Wg bO bB bM cO cB T b6 b7 b8 rd w)(r:Rly rd Lv O w w1):HdW Wg bO bB bM cO cB T b6 b7 b8 rd w1:=
 ⟨(cell_sam0 (r.stb _ (Or.inl h.rO)) 0).trans h.cO,(cell_sam0 (r.stb _ (Or.inl h.rB)) 0).trans h.cB,(cell_sam0 (r.stb _ (Or.inl h.rM)) 0).trans h.cM,h.rO,h.rB,h.rM,fun b hb=>Nat.lt_of_lt_of_le (h.lt b hb) r.size⟩
def wkLoopx(f:Func):Code:=match f.body with|some (.seq _ (.block _ (.loop c)))=>c|_=> .skip
def wkR1x(f:Func):Array Oper:=match wkLoopx f with | .seq (.region _ ops _) _=>ops|_ => #[]
def wkRestx(f:Func):Code:=match wkLoopx f with | .seq _ c=>c|_=> .skip
def rcvTodox(f:Func):List Item:=[.inRegion (wkR1x f) [0,1],.code (wkRestx f),.inLoop (wkLoopx f),.inBlock 0]
def hdOpsx(f:Func):Array Oper:=match f.body with|some (.seq _ (.region _ ops _))=>ops|_ => #[]
def hdBotx(P:Program):Frame:={ (default:Frame)with fn:=P.funcs.size,defers:=[],mode:= .panicking [goexitEntry]}
def hdCall(Wg bO bB bM:Nat):Deferred:={ target:= .fn (.func 50) #[.pointer (some ⟨Wg,0,none⟩),.pointer (some ⟨bO,0,none⟩),.pointer (some ⟨bB,0,none⟩),.pointer (some ⟨bM,0,none⟩)],args := #[]}
def fnV(T b6 b7 b8:Nat):Value:= .func (.func 27) #[] #[.pointer (some ⟨T,0,none⟩),.pointer (some ⟨b6,0,none⟩),.pointer (some ⟨b7,0,none⟩),.pointer (some ⟨b8,0,none⟩)]
def hdFramex(f:Func)(Wg bO bB bM cO cB T b6 b7 b8:Nat):Frame:=
 (baseD 50).at ⟨#[.pointer (some ⟨Wg,0,none⟩),.pointer (some ⟨bO,0,none⟩),.pointer (some ⟨bB,0,none⟩),.pointer (some ⟨bM,0,none⟩),.chan (some cO),.chan (some cB),fnV T b6 b7 b8,undef],[dcall 51 #[.pointer (some ⟨Wg,0,none⟩)]]⟩ [.inRegion (hdOpsx f) [3]]
def RcvF(Wg bO bB bM cO cB T b6 b7 b8:Nat)(fr:Frame)(cs:List Frame):Prop:=
 (∃v3 v4 v5 v6 v8 v9 v10 v11 v12 v13 v14 v15 v16 v17 v18:Value,fr=(base 52).at ⟨#[.chan (some cO),.chan (some cB),fnV T b6 b7 b8,v3,v4,v5,v6,.chan (some cO),v8,v9,v10,v11,v12,v13,v14,v15,v16,v17,v18],[]⟩ (rcvTodox Tryz.f52))∧cs=[(hdFramex Tryz.f50) Wg bO bB bM cO cB T b6 b7 b8,(hdBotx Tryz.prog)]
def StRcv(Wg bO bB bM cO cB T b6 b7 b8:Nat)(_:Nat→Prop)(g:Goroutine)(_:World):Prop:=g.status = .running∧g.dying=none∧RcvF Wg bO bB bM cO cB T b6 b7 b8 g.frame g.callers
theorem hand_born(w:World):stepG Tryz.prog false (born Tryz.prog (hdCall Wg bO bB bM)) w = .go (G (Frame.enter Tryz.prog 50 #[.pointer (some ⟨Wg,0,none⟩),.pointer (some ⟨bO,0,none⟩),.pointer (some ⟨bB,0,none⟩),.pointer (some ⟨bM,0,none⟩)] .deferred) [(hdBotx Tryz.prog)]) w #[]:=by
 simp[born,hdCall,stepG,unwind,callDeferred,invoke,callFunc,Tryz.func50,Tryz.f50,seen,GStep.after,G,hdBotx]
set_option maxRecDepth 100000 in
set_option maxHeartbeats 4000000 in
theorem hand_start(hF:HdW Wg bO bB bM cO cB T b6 b7 b8 rd w):∃n,HG Tryz.prog false rd Lv (StRcv Wg bO bB bM cO cB T b6 b7 b8) n noB (born Tryz.prog (hdCall Wg bO bB bM)) w:=by
 refine⟨301,HG.step rfl fun w1 h1=>?_⟩
 rw[hand_born w1,enter_atD _ Tryz.func50 rfl]
 refine⟨Stp.idle rd noB w1,?_⟩
 rw[grw_idle]
 replace hF:=HdW.rely hF h1
 clear h1
 generalize hw0:w1=w
 subst hw0
 walk_nrmf Tryz.f50
 refine goes_hg (n:=20) (m:=280) ?_
 u_c stepG_seq HdW.rely hF
 u_reg HdW.rely hF
 u_defer HdW.rely hF
 u_c stepG_region_end HdW.rely hF
 u_reg HdW.rely hF
 refine Goes.stop (fun w₁ h₁=>?_)
 replace hF:=HdW.rely hF h₁
 clear h₁
 refine hg_load (.chan (some cO)) rfl rfl (by decide) (Or.inl hF.rO) hF.cO (fun w1 h1=>by go_simp) (fun w1 h1=>by simp[go_sem, *]) ?_
 walk_nrm
 refine hg_load (.chan (some cB)) rfl rfl (by decide) (Or.inl hF.rB) hF.cB (fun w1 h1=>by go_simp) (fun w1 h1=>by simp[go_sem, *]) ?_
 walk_nrm
 refine hg_load (fnV T b6 b7 b8) rfl rfl (by decide) (Or.inl hF.rM) hF.cM (fun w1 h1=>by go_simp) (fun w1 h1=>by simp[go_sem, *]) ?_
 walk_nrm
 refine goes_hg (n:=20) ?_
 u_call Tryz.func52 (by kernel_rfl) Tryz.f52 HdW.rely hF
 u_c stepG_seq HdW.rely hF
 u_reg HdW.rely hF
 u_op HdW.rely hF
 u_c stepG_region_end HdW.rely hF
 u_c stepG_block HdW.rely hF
 u_c stepG_loop HdW.rely hF
 u_c stepG_seq HdW.rely hF
 u_reg HdW.rely hF
 refine Goes.stop (fun w₁ h₁=>?_)
 refine HG.stop (fun w2 h2=>?_)
 exact⟨rfl,rfl,⟨_,_,_,_,_,_,_,_,_,_,_,_,_,_,_,rfl⟩,rfl⟩
end
end
section
open Go.Conc Go.RowKit Go.ConcR.Gen
def zSent:Value:= .agg #[.int .i64 0,.slice none 0 0]
section
variable {Wg bO bB bM cO cB T b6 b7 b8:Nat}{rd:Nat→Prop}{Lv:World→Prop}{O:Nat→Prop}{w w1:World}{Stop:(Nat→Prop)→Goroutine→World→Prop}{fr:Frame}{cs:List Frame}
set_option maxRecDepth 100000 in
set_option maxHeartbeats 4000000 in
theorem hand_rcv(h:RcvF Wg bO bB bM cO cB T b6 b7 b8 fr cs)(w:World):stepG Tryz.prog false (G fr cs) w = .comm (G fr cs) #[rcase cO zSent] true (.recv true) w #[]:=by
 obtain⟨⟨v3,v4,v5,v6,v8,v9,v10,v11,v12,v13,v14,v15,v16,v17,v18,rfl⟩,rfl⟩:=h
 simp only[rcvTodox,wkR1x,wkRestx,wkLoopx,Tryz.f52]
 refine(stepG_comm (cases := #[rcase cO zSent]) (blocking:=true) (shape:= .recv true) (w':=w) rfl rfl (by decide) (by go_simp;rfl)).trans ?_
 have e:∀E:Array Event,E = #[]→GStep.comm (G ((base 52).at ⟨#[.chan (some cO),.chan (some cB),fnV T b6 b7 b8,v3,v4,v5,v6,.chan (some cO),v8,v9,v10,v11,v12,v13,v14,v15,v16,v17,v18],[]⟩ (rcvTodox Tryz.f52)) [(hdFramex Tryz.f50) Wg bO bB bM cO cB T b6 b7 b8,(hdBotx Tryz.prog)]) #[rcase cO zSent] true (.recv true) w E=GStep.comm (G ((base 52).at ⟨#[.chan (some cO),.chan (some cB),fnV T b6 b7 b8,v3,v4,v5,v6,.chan (some cO),v8,v9,v10,v11,v12,v13,v14,v15,v16,v17,v18],[]⟩ (rcvTodox Tryz.f52)) [(hdFramex Tryz.f50) Wg bO bB bM cO cB T b6 b7 b8,(hdBotx Tryz.prog)]) #[rcase cO zSent] true (.recv true) w #[]:=fun E h=>by rw[h]
 refine e _ ?_
 unfold listed
 have h0:∀E:Array Event,E = #[]→seen Tryz.prog 52 E = #[]:=fun E h=>by rw[h,seen_none]
 refine h0 _ ?_
 simp[go_sem]
set_option maxRecDepth 100000 in
set_option maxHeartbeats 4000000 in
theorem hand_over(hF:HdW Wg bO bB bM cO cB T b6 b7 b8 rd w)(hlv:Lv w)(h:RcvF Wg bO bB bM cO cB T b6 b7 b8 fr cs)
  (hS:∀w,HdW Wg bO bB bM cO cB T b6 b7 b8 rd w→Lv w→Stop noB (G ((baseD 51).at ⟨#[.pointer (some ⟨Wg,0,none⟩),undef,undef,undef],[]⟩ [.code (Go.ConcR.Gen.body_done wgLink)]) [{ (baseD 50).at ⟨#[.pointer (some ⟨Wg,0,none⟩),.pointer (some ⟨bO,0,none⟩),.pointer (some ⟨bB,0,none⟩),.pointer (some ⟨bM,0,none⟩),.chan (some cO),.chan (some cB),fnV T b6 b7 b8,.tuple #[]],[]⟩ []with mode:= .returning },(hdBotx Tryz.prog)]) w) :
  ∃n,HG Tryz.prog false rd Lv Stop n noB (G (fr.finish (recvd true zSent false)) cs) w:=by
 obtain⟨⟨v3,v4,v5,v6,v8,v9,v10,v11,v12,v13,v14,v15,v16,v17,v18,rfl⟩,rfl⟩:=h
 have RL:∀ {w w1:World},(HdW Wg bO bB bM cO cB T b6 b7 b8 rd w∧Lv w)→Rly rd Lv noB w w1→(HdW Wg bO bB bM cO cB T b6 b7 b8 rd w1∧Lv w1):=fun h r=>⟨h.1.rely r,r.lv h.2⟩
 replace hF:=And.intro hF hlv
 simp only[rcvTodox,wkR1x,wkRestx,wkLoopx,Tryz.f52]
 rw[Frame.finish_at]
 simp only[recvd]
 walk_nrm
 refine⟨300,?_⟩
 refine goes_hg (n:=40) ?_
 u_op RL hF
 u_c stepG_region_end RL hF
 u_c stepG_seq RL hF
 u_cond false RL hF
 u_exit RL hF
 u_c stepG_end RL hF
 simp only[hdFramex,hdOpsx,Tryz.f50]
 u_leave0 Tryz.func52 RL hF
 u_c stepG_region_end RL hF
 u_c stepG_end RL hF
 u_in RL hF
 rw[stepG_unwind_enter rfl Tryz.func51 (by kernel_rfl) rfl]
 simp only[goes_go]
 refine⟨by u_nil,?_⟩
 refine Goes.stop (fun w₁ h₁=>?_)
 replace hF:=RL hF h₁
 refine HG.stop (fun w2 h2=>?_)
 have hF2:=RL hF h2
 exact hS w2 hF2.1 hF2.2
end
end
section
open Go.Conc Go.RowKit Go.ConcR.Gen
open Go.ConcR (Payload)
section
variable {Wg bO bB bM cO cB T b6 b7 b8:Nat}{rd:Nat→Prop}{Lv:World→Prop}{O:Nat→Prop}{w w1:World}
theorem done_goes(et:TypeId){C:Nat}{v:Value}{c:Frame}{qt:Nat}(hcm:c.mode = .returning)(hT:QuitsD Tryz.prog qt 0 (G c [(hdBotx Tryz.prog)]))(hl:Go.ConcN.WgLive wgLink.tWg Wg w)(hc : @Go.ConcN.Has C 0 v w) :
  Goes Tryz.prog false (@Go.ConcN.RW ⟨et⟩ wgLink.tWg Wg C 1 0 0) (@Go.ConcN.DWs ⟨et⟩ Wg ffL ffL C 1 1) (@Go.ConcN.AtR0 ⟨et⟩ Tryz.prog wgLink.tWg Wg C 1 0 1 v) 23 (G ((baseD wgLink.done).at ⟨#[.pointer (some ⟨Wg,0,none⟩),undef,undef,undef],[]⟩ [.code (Go.ConcR.Gen.body_done wgLink)]) (c::[(hdBotx Tryz.prog)])) w:=by
 letI:Payload:=⟨et⟩
 exact Go.ConcN.Gen.doneN (k:=1) (n:=1) (Low:=0) wgLib hcm hT w ⟨hl,hc⟩
theorem last_quits {f:FuncId}{fn:Func}{a:Act}{todo:List Item}(hd:a.defers=[])(hf:Tryz.prog.funcs[f]?=some fn)(hr:fn.results = #[]):QuitsD Tryz.prog 2 0 (G { (baseD f).at a todo with mode:= .returning } [(hdBotx Tryz.prog)]):=by
 have hres:results fn a.tmps=pure (.tuple #[]):=by simp[results,hr]
 refine QuitsD.ctl (g':=G (hdBotx Tryz.prog) []) rfl (fun w=>?_) ?_
 ·simp[G,stepG,unwind,Frame.at,hd,baseD,hf,hres,pure,doReturn,GStep.after,seen_none,hdBotx,goexitEntry]
 refine QuitsD.ctl (g':={ G (hdBotx Tryz.prog) []with status:= .finished }) rfl (fun w=>?_) ⟨rfl,rfl⟩
 simp[G,stepG,unwind,hdBotx,goexitEntry,Frame.catches]
 rfl
end
end
section
open Go.Conc Go.RowKit Go.ConcR.Gen
def wkR3x(f:Func):Array Oper:=match wkRestx f with | .seq _ (.block _ (.seq _ (.region _ ops _)))=>ops|_ => #[]
theorem cell_of {w:World}{b:Nat}{c:Array Value}{t:TypeId}{o:Nat}{v:Value}(h:w.heap[b]?=some (.cells c t))(hc:c[o]?=some v):w.cell? ⟨b,o,none⟩=some v:=by simp[World.cell?,h,hc]
theorem thaw_of {w:World}{b:Nat}{c:Array Value}{t:TypeId}(h:w.heap[b]?=some (.cells c t))(o:Nat):w.frozen? ⟨b,o,none⟩=false:=by simp[World.frozen?,h]
theorem set_of {w:World}{b:Nat}{c:Array Value}{t:TypeId}(h:w.heap[b]?=some (.cells c t))(o:Nat)(v:Value):(w.setCell ⟨b,o,none⟩ v).heap[b]?=some (.cells (c.setIfInBounds o v) t):=by
 rw[heap_setCell,if_pos rfl,h]
 rfl
theorem ev_store {P:Program}{w:World}{a:Addr}{v old:Value}{es:Array Event}{e:Event}(hc:w.cell? a=some old)(hf:w.frozen? a=false)(hv:v.oneCell'=true)(he:e∈(store a v).events P w es):e∈es∨e=⟨.cell a,true,false⟩:=by
 rw[events_store (hv:=hv),hc]at he
 simp only[hf]at he
 rcases Array.mem_push.1 he with h|h
 ·exact Or.inl h
 ·exact Or.inr h
theorem HdW.keep {Wg bO bB bM cO cB T b6 b7 b8:Nat}{rd:Nat→Prop}{w w1:World}(h:HdW Wg bO bB bM cO cB T b6 b7 b8 rd w)(hs:∀b,rd b→w1.heap[b]?=w.heap[b]?)(hz:w.heap.size≤w1.heap.size):HdW Wg bO bB bM cO cB T b6 b7 b8 rd w1:=
 ⟨(cell_sam0 (hs _ h.rO) 0).trans h.cO,(cell_sam0 (hs _ h.rB) 0).trans h.cB,(cell_sam0 (hs _ h.rM) 0).trans h.cM,h.rO,h.rB,h.rM,fun b hb=>Nat.lt_of_lt_of_le (h.lt b hb) hz⟩
section
variable {Wg bO bB bM cO cB T b6 b7 b8:Nat}{rd:Nat→Prop}{Lv:World→Prop}{O:Nat→Prop}{w w1:World}{Stop:(Nat→Prop)→Goroutine→World→Prop}{fr:Frame}{cs:List Frame}
set_option maxRecDepth 100000 in
set_option maxHeartbeats 4000000 in
theorem hand_word(hT:T<bO){m:Nat}{i:Int}{wo:Option Addr}{wn wc:Nat}(hF:HdW Wg bO bB bM cO cB T b6 b7 b8 rd w)(h:RcvF Wg bO bB bM cO cB T b6 b7 b8 fr cs)
  (hn:∀w s,T<s→HdW Wg bO bB bM cO cB T b6 b7 b8 rd w→w.heap[s]?=some (.cells #[.int .i64 i,.slice wo wn wc] 98)→∀v3 v4 v5 v11 v12 v13 v14 v15 v16 v17 v18:Value,HG Tryz.prog false rd Lv Stop m (fun x=>noB x∨x=s) (G ((base 52).at ⟨#[.chan (some cO),.chan (some cB),fnV T b6 b7 b8,v3,v4,v5,.pointer (some ⟨s,0,none⟩),.chan (some cO),.tuple #[.agg #[.int .i64 i,.slice wo wn wc],.bool true],.bool true,.agg #[.int .i64 i,.slice wo wn wc],v11,v12,v13,v14,v15,v16,v17,v18],[]⟩ [.code (.region 3 (wkR3x Tryz.f52) true),.inBlock 1,.inLoop (wkLoopx Tryz.f52),.inBlock 0]) cs) w) :
  HG Tryz.prog false rd Lv Stop (m+60) noB (G (fr.finish (recvd true (.agg #[.int .i64 i,.slice wo wn wc]) true)) cs) w:=by
 obtain⟨⟨v3,v4,v5,v6,v8,v9,v10,v11,v12,v13,v14,v15,v16,v17,v18,rfl⟩,rfl⟩:=h
 simp only[rcvTodox,wkR1x,wkRestx,wkLoopx,Tryz.f52]
 rw[Frame.finish_at]
 simp only[recvd]
 walk_nrm
 refine goes_hg (n:=40) ?_
 u_op HdW.rely hF
 u_c stepG_region_end HdW.rely hF
 u_c stepG_seq HdW.rely hF
 u_cond true HdW.rely hF
 u_c stepG_skip HdW.rely hF
 u_c stepG_block HdW.rely hF
 u_c stepG_seq HdW.rely hF
 u_reg HdW.rely hF
 u_op HdW.rely hF
 refine Goes.stop (fun w₁ h₁=>?_)
 replace hF:=HdW.rely hF h₁
 clear h₁
 refine hg_new (fun _=> .cells #[.int .i64 0,.slice none 0 0] 98) rfl rfl (by decide) (fun w1 h1=>by go_simp) (fun w1 h1=>by simp[go_sem]) (fun w1 h1=>?_)
 walk_nrm
 replace hF:=HdW.rely hF h1
 have hF2:HdW Wg bO bB bM cO cB T b6 b7 b8 rd { w1 with heap:=w1.heap.push (.cells #[.int .i64 0,.slice none 0 0] 98)}:=hF.keep (fun b hb=>by
  have:=hF.lt b hb
  show(w1.heap.push _)[b]?=_
  rw[Array.getElem?_push,if_neg (by omega)]) (by show w1.heap.size≤(w1.heap.push _).size;simp)
 have hs:({ w1 with heap:=w1.heap.push (.cells #[.int .i64 0,.slice none 0 0] 98)}:World).heap[w1.heap.size]?=some (.cells #[.int .i64 0,.slice none 0 0] 98):=by simp
 have hns:∀b,rd b→b≠w1.heap.size:=fun b hb=>by have:=hF.lt b hb;omega
 have hTs:T<w1.heap.size:=Nat.lt_trans hT (hF.lt bO hF.rO)
 clear hF h1
 generalize hw2:({ w1 with heap:=w1.heap.push (.cells #[.int .i64 0,.slice none 0 0] 98)}:World)=w2 at hF2 hs ⊢
 clear hw2
 generalize w1.heap.size=s at hs hns hTs ⊢
 refine hg_store (fun w=>(w.setCell ⟨s,0,none⟩ (.int .i64 i)).setCell ⟨s,1,none⟩ (.slice wo wn wc)) rfl rfl (by decide) (fun w3 h3=>?_) (fun w3 h3=>⟨by rw[size_setCell,size_setCell],⟨rfl,rfl,rfl⟩,fun x hx=>?_⟩) (fun w3 h3=>?_) (fun w3 h3=>?_)
 ·have hs3:=(h3.stb s (Or.inr (Or.inr rfl))).trans hs
  have c0:=cell_of (o:=0) hs3 rfl
  have f0:=thaw_of hs3 0
  have hs4:=set_of hs3 0 (.int .i64 i)
  have c1:=cell_of (o:=1) hs4 rfl
  have f1:=thaw_of hs4 1
  clear h3
  go_simp
 ·rw[heap_setCell,if_neg (fun e=>hx (Or.inr e)),heap_setCell,if_neg (fun e=>hx (Or.inr e))]
 ·have hs3:=(h3.stb s (Or.inr (Or.inr rfl))).trans hs
  have c0:=cell_of (o:=0) hs3 rfl
  have f0:=thaw_of hs3 0
  have hs4:=set_of hs3 0 (.int .i64 i)
  have c1:=cell_of (o:=1) hs4 rfl
  have f1:=thaw_of hs4 1
  have hl:s<w3.heap.size:=lt_of_some hs3
  clear h3
  intro e he
  simp[go_sem, *]at he
  rcases ev_store c1 f1 rfl he with h|h
  ·have h:e=⟨.cell ⟨s,0,none⟩,true,Mode.plain == Mode.atomic⟩:=by simpa using h
   have h:e=⟨.cell ⟨s,0,none⟩,true,false⟩:=h
   subst h
   exact⟨rfl,hl,Or.inl (Or.inr rfl)⟩
  ·subst h
   exact⟨rfl,hl,Or.inl (Or.inr rfl)⟩
 ·have hs3:=(h3.stb s (Or.inr (Or.inr rfl))).trans hs
  have hs4:=set_of hs3 0 (.int .i64 i)
  have hs5:=set_of hs4 1 (.slice wo wn wc)
  have hF4:HdW Wg bO bB bM cO cB T b6 b7 b8 rd ((w3.setCell ⟨s,0,none⟩ (.int .i64 i)).setCell ⟨s,1,none⟩ (.slice wo wn wc)):=(HdW.rely hF2 h3).keep (fun b hb=>by
   rw[heap_setCell,if_neg (hns b hb),heap_setCell,if_neg (hns b hb)]) (by rw[size_setCell,size_setCell];exact Nat.le_refl _)
  have hs5:((w3.setCell ⟨s,0,none⟩ (.int .i64 i)).setCell ⟨s,1,none⟩ (.slice wo wn wc)).heap[s]?=some (.cells #[.int .i64 i,.slice wo wn wc] 98):=hs5
  clear hF2 h3 hs3 hs4
  generalize (w3.setCell ⟨s,0,none⟩ (.int .i64 i)).setCell ⟨s,1,none⟩ (.slice wo wn wc)=w4 at hF4 hs5 ⊢
  have rl:∀ {w w1:World},(HdW Wg bO bB bM cO cB T b6 b7 b8 rd w∧w.heap[s]?=some (.cells #[.int .i64 i,.slice wo wn wc] 98))→Rly rd Lv (fun x=>noB x∨x=s) w w1→(HdW Wg bO bB bM cO cB T b6 b7 b8 rd w1∧w1.heap[s]?=some (.cells #[.int .i64 i,.slice wo wn wc] 98)):=fun h r=>⟨h.1.rely r,(r.stb s (Or.inr (Or.inr rfl))).trans h.2⟩
  have hF5:=And.intro hF4 hs5
  clear hF4 hs5
  walk_nrm
  refine goes_hg (n:=10) ?_
  u_c stepG_region_end rl hF5
  refine Goes.stop (fun w₁ h₁=>?_)
  have hF6:=rl hF5 h₁
  exact hg_up 8 (hn w₁ s hTs hF6.1 hF6.2 v3 v4 v5 v11 v12 v13 v14 v15 v16 v17 v18)
end
end
section
open Go.Conc Go.RowKit Go.ConcR.Gen
theorem enters_run1:∀args w,(callFunc 27 args).run Tryz.prog w = .ok (.enter 27 args) w:=by
 intro args w
 simp[callFunc,Tryz.func27,Tryz.f27,go_sem]
theorem events_run1:∀args w es,(callFunc 27 args).events Tryz.prog w es=es:=by
 intro args w es
 simp[callFunc,Tryz.func27,Tryz.f27,go_sem]
def wkT(D:Nat→Bool)(cO cB T b6 b7 b8 s:Nat)(i:Int)(wv g0 g1 g2 v3 v4 v5 v11 v12 v13 v14 v15 v16 v17 v18:Value):Array Value:=
 #[.chan (some cO),.chan (some cB),fnV T b6 b7 b8,v3,v4,v5,.pointer (some ⟨s,0,none⟩),.chan (some cO),.tuple #[.agg #[.int .i64 i,wv],.bool true],.bool true,.agg #[.int .i64 i,wv],if D 0 then .chan (some cB)else v11,if D 1 then .pointer (some ⟨s,0,none⟩)else v12,if D 2 then .int .i64 i else v13,if D 3 then fnV T b6 b7 b8 else v14,
  if D 4 then .pointer (some ⟨s,1,none⟩)else v15,if D 5 then wv else v16,if D 6 then .agg #[g0,g1,g2]else v17,if D 7 then .agg #[.int .i64 i,g0,g1,g2]else v18]
theorem on_of {ops:Array Oper}{n:Nat}(hn:ops.size=n)(h:(ops.all fun o=>o.after.all fun e=>decide (e.on<n))=true):∀(i:Nat) (o:Oper) (e:Edge),ops[i]?=some o→e∈o.after→e.on<ops.size:=by
 intro i o e ho he
 have h1:=Array.all_eq_true_iff_forall_mem.1 h o (Array.mem_of_getElem? ho)
 have h2:=Array.all_eq_true_iff_forall_mem.1 h1 e he
 rw[hn]
 simpa using h2
theorem wk_on:∀(i:Nat) (o:Oper) (e:Edge),(wkR3x Tryz.f52)[i]?=some o→e∈o.after→e.on<(wkR3x Tryz.f52).size:=on_of (n:=9) (by kernel_rfl) (by kernel_rfl)
theorem wk_dep {D:Nat→Bool}{l:List Nat}{i:Nat}(h:Val (wkR3x Tryz.f52) D (i::l)):i<9∧D i=false∧Val (wkR3x Tryz.f52) (fun x=>D x || decide (x=i)) l∧(i=2→D 1=true)∧(i=5→D 4=true)∧(i=6→D 3=true∧D 5=true)∧(i=7→D 2=true∧D 6=true)∧(i=8→D 0=true∧D 7=true∧D 6=true):=by
 obtain⟨h1,⟨o,ho,hd⟩,h3⟩:=h
 have hi:i<9:=by
  have hsz:(wkR3x Tryz.f52).size=9:=by kernel_rfl
  have:=(Array.getElem?_eq_some_iff.1 ho).1
  omega
 simp only[wkR3x,wkRestx,wkLoopx,Tryz.f52]at ho
 refine⟨hi,h1,h3,?_,?_,?_,?_,?_⟩
 ·rintro rfl
  cases Option.some.inj ho
  exact hd ⟨1,.data⟩ (by simp) rfl
 ·rintro rfl
  cases Option.some.inj ho
  exact hd ⟨4,.data⟩ (by simp) rfl
 ·rintro rfl
  cases Option.some.inj ho
  exact⟨hd ⟨3,.data⟩ (by simp) rfl,hd ⟨5,.data⟩ (by simp) rfl⟩
 ·rintro rfl
  cases Option.some.inj ho
  exact⟨hd ⟨2,.data⟩ (by simp) rfl,hd ⟨6,.data⟩ (by simp) rfl⟩
 ·rintro rfl
  cases Option.some.inj ho
  exact⟨hd ⟨0,.data⟩ (by simp) rfl,hd ⟨7,.data⟩ (by simp) rfl,hd ⟨6,.chain⟩ (by simp) rfl⟩
theorem wk_nil {D:Nat→Bool}(h:Val (wkR3x Tryz.f52) D []):D 8=true:=by
 have key:∀(i:Nat) (o:Oper),(wkR3x Tryz.f52)[i]?=some o→(∀e,e∈o.after→Region.binds .any e=true→D e.on=true)→i<9→D i=true:=by
  intro i o ho hd hi
  cases hD:D i with
  | true=>rfl
  | false=>
   obtain⟨o',ho',e,he,hb,hf⟩:=h i (by rw[show(wkR3x Tryz.f52).size=9 by kernel_rfl];exact hi) hD
   rw[ho]at ho'
   cases ho'
   rw[hd e he hb]at hf
   cases hf
 have k0:D 0=true:=by
  refine key 0 _ rfl (fun e he _=>?_) (by omega)
  have he:e∈(#[]:Array Edge):=he
  simp at he
 have k1:D 1=true:=by
  refine key 1 _ rfl (fun e he _=>?_) (by omega)
  have he:e∈(#[]:Array Edge):=he
  simp at he
 have k3:D 3=true:=by
  refine key 3 _ rfl (fun e he _=>?_) (by omega)
  have he:e∈(#[]:Array Edge):=he
  simp at he
 have k4:D 4=true:=by
  refine key 4 _ rfl (fun e he _=>?_) (by omega)
  have he:e∈(#[]:Array Edge):=he
  simp at he
 have k2:D 2=true:=by
  refine key 2 _ rfl (fun e he _=>?_) (by omega)
  have he:e∈(#[⟨1,.data⟩]:Array Edge):=he
  simp at he
  subst he
  exact k1
 have k5:D 5=true:=by
  refine key 5 _ rfl (fun e he _=>?_) (by omega)
  have he:e∈(#[⟨4,.data⟩]:Array Edge):=he
  simp at he
  subst he
  exact k4
 have k6:D 6=true:=by
  refine key 6 _ rfl (fun e he _=>?_) (by omega)
  have he:e∈(#[⟨3,.data⟩,⟨5,.data⟩]:Array Edge):=he
  simp at he
  rcases he with rfl|rfl
  ·exact k3
  ·exact k5
 have k7:D 7=true:=by
  refine key 7 _ rfl (fun e he _=>?_) (by omega)
  have he:e∈(#[⟨2,.data⟩,⟨6,.data⟩]:Array Edge):=he
  simp at he
  rcases he with rfl|rfl
  ·exact k2
  ·exact k6
 have k8:D 8=true:=by
  refine key 8 _ rfl (fun e he _=>?_) (by omega)
  have he:e∈(#[⟨0,.data⟩,⟨7,.data⟩,⟨6,.chain⟩]:Array Edge):=he
  simp at he
  rcases he with rfl|rfl|rfl
  ·exact k0
  ·exact k7
  ·exact k6
 exact k8
end
section
open Go.Conc Go.RowKit Go.ConcR.Gen
section
variable {cO cB T b6 b7 b8 s:Nat}{i:Int}{wv g0 g1 g2 v3 v4 v5 v11 v12 v13 v14 v15 v16 v17 v18:Value}{D:Nat→Bool}{rd:Nat→Prop}{Lv:World→Prop}{O:Nat→Prop}{w:World}{Stop:(Nat→Prop)→Goroutine→World→Prop}{k:List Item}{cs:List Frame}{l:List Nat}{n:Nat}
set_option maxRecDepth 100000 in
theorem told_build(w1:World):(Instr.build 100 #[(0,.int .i64 i),(1,.agg #[g0,g1,g2])]).run Tryz.prog w1 = .ok (.agg #[.int .i64 i,g0,g1,g2]) w1:=run_build w1 _ _ _ (by kernel_rfl)
theorem told_ev(w1:World):(Instr.build 100 #[(0,.int .i64 i),(1,.agg #[g0,g1,g2])]).events Tryz.prog w1 #[] = #[]:=by
 unfold Instr.build
 simp[go_sem]
theorem wk_put0:(⟨wkT D cO cB T b6 b7 b8 s i wv g0 g1 g2 v3 v4 v5 v11 v12 v13 v14 v15 v16 v17 v18,[]⟩:Act).put (some 11) (.chan (some cB))=⟨wkT (fun x=>D x || decide (x=0)) cO cB T b6 b7 b8 s i wv g0 g1 g2 v3 v4 v5 v11 v12 v13 v14 v15 v16 v17 v18,[]⟩:=by
 simp[Act.put,wkT]
theorem wk_put1:(⟨wkT D cO cB T b6 b7 b8 s i wv g0 g1 g2 v3 v4 v5 v11 v12 v13 v14 v15 v16 v17 v18,[]⟩:Act).put (some 12) (.pointer (some ⟨s,0,none⟩))=⟨wkT (fun x=>D x || decide (x=1)) cO cB T b6 b7 b8 s i wv g0 g1 g2 v3 v4 v5 v11 v12 v13 v14 v15 v16 v17 v18,[]⟩:=by
 simp[Act.put,wkT]
theorem wk_put2:(⟨wkT D cO cB T b6 b7 b8 s i wv g0 g1 g2 v3 v4 v5 v11 v12 v13 v14 v15 v16 v17 v18,[]⟩:Act).put (some 13) (.int .i64 i)=⟨wkT (fun x=>D x || decide (x=2)) cO cB T b6 b7 b8 s i wv g0 g1 g2 v3 v4 v5 v11 v12 v13 v14 v15 v16 v17 v18,[]⟩:=by
 simp[Act.put,wkT]
theorem wk_put3:(⟨wkT D cO cB T b6 b7 b8 s i wv g0 g1 g2 v3 v4 v5 v11 v12 v13 v14 v15 v16 v17 v18,[]⟩:Act).put (some 14) (fnV T b6 b7 b8)=⟨wkT (fun x=>D x || decide (x=3)) cO cB T b6 b7 b8 s i wv g0 g1 g2 v3 v4 v5 v11 v12 v13 v14 v15 v16 v17 v18,[]⟩:=by
 simp[Act.put,wkT]
theorem wk_put4:(⟨wkT D cO cB T b6 b7 b8 s i wv g0 g1 g2 v3 v4 v5 v11 v12 v13 v14 v15 v16 v17 v18,[]⟩:Act).put (some 15) (.pointer (some ⟨s,1,none⟩))=⟨wkT (fun x=>D x || decide (x=4)) cO cB T b6 b7 b8 s i wv g0 g1 g2 v3 v4 v5 v11 v12 v13 v14 v15 v16 v17 v18,[]⟩:=by
 simp[Act.put,wkT]
theorem wk_put5:(⟨wkT D cO cB T b6 b7 b8 s i wv g0 g1 g2 v3 v4 v5 v11 v12 v13 v14 v15 v16 v17 v18,[]⟩:Act).put (some 16) (wv)=⟨wkT (fun x=>D x || decide (x=5)) cO cB T b6 b7 b8 s i wv g0 g1 g2 v3 v4 v5 v11 v12 v13 v14 v15 v16 v17 v18,[]⟩:=by
 simp[Act.put,wkT]
theorem wk_put6:(⟨wkT D cO cB T b6 b7 b8 s i wv g0 g1 g2 v3 v4 v5 v11 v12 v13 v14 v15 v16 v17 v18,[]⟩:Act).put (some 17) (.agg #[g0,g1,g2])=⟨wkT (fun x=>D x || decide (x=6)) cO cB T b6 b7 b8 s i wv g0 g1 g2 v3 v4 v5 v11 v12 v13 v14 v15 v16 v17 v18,[]⟩:=by
 simp[Act.put,wkT]
theorem wk_put7:(⟨wkT D cO cB T b6 b7 b8 s i wv g0 g1 g2 v3 v4 v5 v11 v12 v13 v14 v15 v16 v17 v18,[]⟩:Act).put (some 18) (.agg #[.int .i64 i,g0,g1,g2])=⟨wkT (fun x=>D x || decide (x=7)) cO cB T b6 b7 b8 s i wv g0 g1 g2 v3 v4 v5 v11 v12 v13 v14 v15 v16 v17 v18,[]⟩:=by
 simp[Act.put,wkT]
set_option maxRecDepth 100000 in
theorem wk_s0(hn:HG Tryz.prog false rd Lv Stop n O (G ((base 52).at ⟨wkT (fun x=>D x || decide (x=0)) cO cB T b6 b7 b8 s i wv g0 g1 g2 v3 v4 v5 v11 v12 v13 v14 v15 v16 v17 v18,[]⟩ (.inRegion (wkR3x Tryz.f52) l::k)) cs) w):HG Tryz.prog false rd Lv Stop (n+1) O (G ((base 52).at ⟨wkT D cO cB T b6 b7 b8 s i wv g0 g1 g2 v3 v4 v5 v11 v12 v13 v14 v15 v16 v17 v18,[]⟩ (.inRegion (wkR3x Tryz.f52) (0::l)::k)) cs) w:=by
 rw[←wk_put0]at hn
 refine hg_value (.chan (some cB)) rfl rfl (by decide) (fun w1 h1=>?_) (fun w1 h1 e he=>?_) hn
 ·simp only[wkR3x,wkRestx,wkLoopx,Tryz.f52,wkT]
  go_simp
 ·simp only[wkR3x,wkRestx,wkLoopx,Tryz.f52,wkT]at he
  simp[go_sem, *]at he
set_option maxRecDepth 100000 in
theorem wk_s1(hn:HG Tryz.prog false rd Lv Stop n O (G ((base 52).at ⟨wkT (fun x=>D x || decide (x=1)) cO cB T b6 b7 b8 s i wv g0 g1 g2 v3 v4 v5 v11 v12 v13 v14 v15 v16 v17 v18,[]⟩ (.inRegion (wkR3x Tryz.f52) l::k)) cs) w):HG Tryz.prog false rd Lv Stop (n+1) O (G ((base 52).at ⟨wkT D cO cB T b6 b7 b8 s i wv g0 g1 g2 v3 v4 v5 v11 v12 v13 v14 v15 v16 v17 v18,[]⟩ (.inRegion (wkR3x Tryz.f52) (1::l)::k)) cs) w:=by
 rw[←wk_put1]at hn
 refine hg_value (.pointer (some ⟨s,0,none⟩)) rfl rfl (by decide) (fun w1 h1=>?_) (fun w1 h1 e he=>?_) hn
 ·simp only[wkR3x,wkRestx,wkLoopx,Tryz.f52,wkT]
  go_simp
 ·simp only[wkR3x,wkRestx,wkLoopx,Tryz.f52,wkT]at he
  simp[go_sem, *]at he
set_option maxRecDepth 100000 in
theorem wk_s2(hD:D 1=true)(ho:O s)(hc:w.cell? ⟨s,0,none⟩=some (.int .i64 i))(hn:HG Tryz.prog false rd Lv Stop n O (G ((base 52).at ⟨wkT (fun x=>D x || decide (x=2)) cO cB T b6 b7 b8 s i wv g0 g1 g2 v3 v4 v5 v11 v12 v13 v14 v15 v16 v17 v18,[]⟩ (.inRegion (wkR3x Tryz.f52) l::k)) cs) w):HG Tryz.prog false rd Lv Stop (n+1) O (G ((base 52).at ⟨wkT D cO cB T b6 b7 b8 s i wv g0 g1 g2 v3 v4 v5 v11 v12 v13 v14 v15 v16 v17 v18,[]⟩ (.inRegion (wkR3x Tryz.f52) (2::l)::k)) cs) w:=by
 rw[←wk_put2]at hn
 have hx:(wkT D cO cB T b6 b7 b8 s i wv g0 g1 g2 v3 v4 v5 v11 v12 v13 v14 v15 v16 v17 v18).getD 12 undef = .pointer (some ⟨s,0,none⟩):=by simp[wkT,hD]
 refine hg_load (.int .i64 i) rfl rfl (by decide) (Or.inr ho) hc (fun w1 h1=>?_) (fun w1 h1=>?_) hn
 ·simp only[wkR3x,wkRestx,wkLoopx,Tryz.f52]
  generalize wkT D cO cB T b6 b7 b8 s i wv g0 g1 g2 v3 v4 v5 v11 v12 v13 v14 v15 v16 v17 v18=X at hx
  have hx':X[12]?.getD undef = .pointer (some ⟨s,0,none⟩):=by rw[←hx,Array.getD_eq_getD_getElem?]
  go_simp
 ·simp only[wkR3x,wkRestx,wkLoopx,Tryz.f52]
  generalize wkT D cO cB T b6 b7 b8 s i wv g0 g1 g2 v3 v4 v5 v11 v12 v13 v14 v15 v16 v17 v18=X at hx
  have hx':X[12]?.getD undef = .pointer (some ⟨s,0,none⟩):=by rw[←hx,Array.getD_eq_getD_getElem?]
  simp[go_sem, *]
set_option maxRecDepth 100000 in
theorem wk_s3(hn:HG Tryz.prog false rd Lv Stop n O (G ((base 52).at ⟨wkT (fun x=>D x || decide (x=3)) cO cB T b6 b7 b8 s i wv g0 g1 g2 v3 v4 v5 v11 v12 v13 v14 v15 v16 v17 v18,[]⟩ (.inRegion (wkR3x Tryz.f52) l::k)) cs) w):HG Tryz.prog false rd Lv Stop (n+1) O (G ((base 52).at ⟨wkT D cO cB T b6 b7 b8 s i wv g0 g1 g2 v3 v4 v5 v11 v12 v13 v14 v15 v16 v17 v18,[]⟩ (.inRegion (wkR3x Tryz.f52) (3::l)::k)) cs) w:=by
 rw[←wk_put3]at hn
 refine hg_value (fnV T b6 b7 b8) rfl rfl (by decide) (fun w1 h1=>?_) (fun w1 h1 e he=>?_) hn
 ·simp only[wkR3x,wkRestx,wkLoopx,Tryz.f52,wkT]
  go_simp
 ·simp only[wkR3x,wkRestx,wkLoopx,Tryz.f52,wkT]at he
  simp[go_sem, *]at he
set_option maxRecDepth 100000 in
theorem wk_s4(hn:HG Tryz.prog false rd Lv Stop n O (G ((base 52).at ⟨wkT (fun x=>D x || decide (x=4)) cO cB T b6 b7 b8 s i wv g0 g1 g2 v3 v4 v5 v11 v12 v13 v14 v15 v16 v17 v18,[]⟩ (.inRegion (wkR3x Tryz.f52) l::k)) cs) w):HG Tryz.prog false rd Lv Stop (n+1) O (G ((base 52).at ⟨wkT D cO cB T b6 b7 b8 s i wv g0 g1 g2 v3 v4 v5 v11 v12 v13 v14 v15 v16 v17 v18,[]⟩ (.inRegion (wkR3x Tryz.f52) (4::l)::k)) cs) w:=by
 rw[←wk_put4]at hn
 refine hg_value (.pointer (some ⟨s,1,none⟩)) rfl rfl (by decide) (fun w1 h1=>?_) (fun w1 h1 e he=>?_) hn
 ·simp only[wkR3x,wkRestx,wkLoopx,Tryz.f52,wkT]
  go_simp
 ·simp only[wkR3x,wkRestx,wkLoopx,Tryz.f52,wkT]at he
  simp[go_sem, *]at he
set_option maxRecDepth 100000 in
theorem wk_s5(hD:D 4=true)(ho:O s)(hc:w.cell? ⟨s,1,none⟩=some wv)(hn:HG Tryz.prog false rd Lv Stop n O (G ((base 52).at ⟨wkT (fun x=>D x || decide (x=5)) cO cB T b6 b7 b8 s i wv g0 g1 g2 v3 v4 v5 v11 v12 v13 v14 v15 v16 v17 v18,[]⟩ (.inRegion (wkR3x Tryz.f52) l::k)) cs) w):HG Tryz.prog false rd Lv Stop (n+1) O (G ((base 52).at ⟨wkT D cO cB T b6 b7 b8 s i wv g0 g1 g2 v3 v4 v5 v11 v12 v13 v14 v15 v16 v17 v18,[]⟩ (.inRegion (wkR3x Tryz.f52) (5::l)::k)) cs) w:=by
 rw[←wk_put5]at hn
 have hx:(wkT D cO cB T b6 b7 b8 s i wv g0 g1 g2 v3 v4 v5 v11 v12 v13 v14 v15 v16 v17 v18).getD 15 undef = .pointer (some ⟨s,1,none⟩):=by simp[wkT,hD]
 refine hg_load (wv) rfl rfl (by decide) (Or.inr ho) hc (fun w1 h1=>?_) (fun w1 h1=>?_) hn
 ·simp only[wkR3x,wkRestx,wkLoopx,Tryz.f52]
  generalize wkT D cO cB T b6 b7 b8 s i wv g0 g1 g2 v3 v4 v5 v11 v12 v13 v14 v15 v16 v17 v18=X at hx
  have hx':X[15]?.getD undef = .pointer (some ⟨s,1,none⟩):=by rw[←hx,Array.getD_eq_getD_getElem?]
  go_simp
 ·simp only[wkR3x,wkRestx,wkLoopx,Tryz.f52]
  generalize wkT D cO cB T b6 b7 b8 s i wv g0 g1 g2 v3 v4 v5 v11 v12 v13 v14 v15 v16 v17 v18=X at hx
  have hx':X[15]?.getD undef = .pointer (some ⟨s,1,none⟩):=by rw[←hx,Array.getD_eq_getD_getElem?]
  simp[go_sem, *]
set_option maxRecDepth 100000 in
theorem wk_s7(hD:D 2=true)(hD6:D 6=true)(hn:HG Tryz.prog false rd Lv Stop n O (G ((base 52).at ⟨wkT (fun x=>D x || decide (x=7)) cO cB T b6 b7 b8 s i wv g0 g1 g2 v3 v4 v5 v11 v12 v13 v14 v15 v16 v17 v18,[]⟩ (.inRegion (wkR3x Tryz.f52) l::k)) cs) w):HG Tryz.prog false rd Lv Stop (n+1) O (G ((base 52).at ⟨wkT D cO cB T b6 b7 b8 s i wv g0 g1 g2 v3 v4 v5 v11 v12 v13 v14 v15 v16 v17 v18,[]⟩ (.inRegion (wkR3x Tryz.f52) (7::l)::k)) cs) w:=by
 rw[←wk_put7]at hn
 refine hg_value (.agg #[.int .i64 i,g0,g1,g2]) rfl rfl (by decide) (fun w1 h1=>?_) (fun w1 h1 e he=>?_) hn
 ·simp only[wkR3x,wkRestx,wkLoopx,Tryz.f52,wkT,hD,hD6]
  have hb:=told_build (i:=i) (g0:=g0) (g1:=g1) (g2:=g2) w1
  go_simp
 ·simp only[wkR3x,wkRestx,wkLoopx,Tryz.f52,wkT,hD,hD6]at he
  have hb:=told_ev (i:=i) (g0:=g0) (g1:=g1) (g2:=g2) w1
  simp[go_sem, *]at he
end
end
section
open Go.Conc Go.RowKit Go.ConcR.Gen
def AtAdd(rd:Nat→Prop)(Lv:World→Prop)(Next:(Nat→Prop)→Goroutine→World→Prop)(m T off:Nat)(d:Int)(O:Nat→Prop)(g:Goroutine)(w:World):Prop:=
 g.status = .running∧∀v0:Int,w.cell? ⟨T,off,none⟩=some (.int .i64 v0)→w.frozen? ⟨T,off,none⟩=false→∃g',stepG Tryz.prog false g w = .go g' (w.setCell ⟨T,off,none⟩ (.int .i64 (IntKind.i64.wrap (v0+d)))) #[⟨.cell ⟨T,off,none⟩,false,true⟩,⟨.cell ⟨T,off,none⟩,true,true⟩]∧
  HG Tryz.prog false rd Lv Next m O g' (w.setCell ⟨T,off,none⟩ (.int .i64 (IntKind.i64.wrap (v0+d))))
section
variable {rd:Nat→Prop}{Lv:World→Prop}{O:Nat→Prop}{w:World}{Next:(Nat→Prop)→Goroutine→World→Prop}{m T off:Nat}{d:Int}{F:World→Prop}{b₀:Frame}{a₀:Act}{ops:Array Oper}{i:Nat}{rest:List Nat}{k:List Item}{cs:List Frame}
set_option maxRecDepth 100000 in
set_option maxHeartbeats 4000000 in
theorem add_walk(hr:∀ {w w1}, F w→Rly rd Lv O w w1→F w1)(hs:∀w v, F w→F (w.setCell ⟨T, off, none⟩ v))
  (hcont:∀v w,F w→HG Tryz.prog false rd Lv Next m O (G (b₀.at (a₀.put ((ops[i]?).bind (·.dst)) v) (.inRegion ops rest::k)) cs) w) (hF:F w) :
  HG Tryz.prog false rd Lv (AtAdd rd Lv Next (m+20) T off d) 20 O (G (Frame.enter Tryz.prog 55 #[.pointer (some ⟨T,off,none⟩),.int .i64 d] .normal) (b₀.at a₀ (.inRegion ops (i::rest)::k)::cs)) w:=by
 rw[enter_at _ Tryz.func55 rfl]
 walk_nrmf Tryz.f55
 refine goes_hg (m:=0) (n:=20) ?_
 u_c stepG_seq hr hF
 u_reg hr hF
 u_op hr hF
 u_c stepG_region_end hr hF
 u_c stepG_seq hr hF
 u_reg hr hF
 u_op hr hF
 u_op hr hF
 u_op hr hF
 u_op hr hF
 refine Goes.stop (fun w₁ h₁=>?_)
 replace hF:=hr hF h₁
 clear h₁
 refine HG.stop (fun w₂ h₂=>?_)
 replace hF:=hr hF h₂
 clear h₂
 refine⟨rfl,fun v0 hc hz=>⟨_,stepG_add_atomic rfl rfl (by decide) rfl Tryz.func86 (by kernel_rfl) (by kernel_rfl) (by kernel_rfl) .i64 (by kernel_rfl) rfl rfl hc hz,?_⟩⟩
 replace hF:=hs _ (.int .i64 (IntKind.i64.wrap (v0+d))) hF
 clear hc hz
 generalize w₂.setCell ⟨T,off,none⟩ (.int .i64 (IntKind.i64.wrap (v0+d)))=w₃ at hF ⊢
 walk_nrm
 refine goes_hg (n:=20) ?_
 u_op hr hF
 u_c stepG_region_end hr hF
 u_c stepG_ret' hr hF
 u_leave1 Tryz.func55 hr hF
 refine Goes.stop (fun w₁ h₁=>?_)
 exact hcont _ _ (hr hF h₁)
end
end
section
open Go.Conc Go.RowKit Go.ConcR.Gen
theorem Rly.less {rd:Nat→Prop}{Lv:World→Prop}{O O':Nat→Prop}{w w1:World}(h:Rly rd Lv O' w w1)(hO:∀b,O b→O' b):Rly rd Lv O w w1:=⟨fun b hb=>h.stb b (hb.imp id (hO b)),h.lv,h.size⟩
structure FLoc(rd O:Nat→Prop)(T:Nat)(F:World→Prop):Prop where
 keep:∀w w1,(∀b,O b∨rd b→w1.heap[b]?=w.heap[b]?)→w.heap.size≤w1.heap.size→F w→F w1
 lt:∀w,F w→∀b,O b∨rd b∨b=T→b<w.heap.size
 nT:¬O T∧¬rd T
section
variable {P:Program}{main:Bool}{rd:Nat→Prop}{Lv:World→Prop}{O:Nat→Prop}{w w1:World}{Stop:(Nat→Prop)→Goroutine→World→Prop}{T n:Nat}{F:World→Prop}{b:Frame}{a:Act}{ops:Array Oper}{i:Nat}{rest:List Nat}{k:List Item}{cs:List Frame}{o:Oper}
theorem FLoc.rely(h:FLoc rd O T F):∀ {w w1},F w→Rly rd Lv O w w1→F w1:=fun f r=>h.keep _ _ (fun b hb=>r.stb b hb.symm) r.size f
theorem FLoc.setT(h:FLoc rd O T F){off:Nat}:∀w v,F w→F (w.setCell ⟨T,off,none⟩ v):=fun w v f=>h.keep w _ (fun x hx=>by
 rw[heap_setCell,if_neg]
 intro e
 have e:x=T:=e
 subst e
 exact hx.elim h.nT.1 h.nT.2) (by rw[size_setCell];exact Nat.le_refl _) f
theorem FLoc.more(h:FLoc rd O T F){x:Nat}(X:Obj)(hx:x≠T):FLoc rd (fun y=>O y∨y=x) T (fun w=>F w∧w.heap[x]?=some X) where
 keep:=fun w w1 hs hz f=>⟨h.keep w w1 (fun y hy=>hs y (hy.imp Or.inl id)) hz f.1,(hs x (Or.inl (Or.inr rfl))).trans f.2⟩
 lt:=fun w f y hy=>by
  rcases hy with(hy|rfl)|hy
  ·exact h.lt w f.1 y (Or.inl hy)
  ·exact lt_of_some f.2
  ·exact h.lt w f.1 y (Or.inr hy)
 nT:=⟨fun c=>c.elim h.nT.1 fun e=>hx e.symm,h.nT.2⟩
theorem hg_alloc(L:FLoc rd O T F)(hF:F w)(X:Obj)(ho:ops[i]?=some o)(hw:Region.wanted o (yielded ops a.tmps)=true)(hk:b.kind ≠ .early)(hr:∀w1:World, (execOp a.eval o).run P w1 = .ok (.value (.pointer (some ⟨w1.heap.size, 0, none⟩))) { w1 with heap:=w1.heap.push X })(he:∀w1:World, (execOp a.eval o).events P w1 #[] = #[])
  (hn:∀x w2,F w2→w2.heap[x]?=some X→¬O x→¬rd x→x≠T→HG P main rd Lv Stop n (fun y=>O y∨y=x) (G (b.at (a.put o.dst (.pointer (some ⟨x,0,none⟩))) (.inRegion ops rest::k)) cs) w2):HG P main rd Lv Stop (n+1) O (G (b.at a (.inRegion ops (i::rest)::k)) cs) w:=by
 refine hg_new (fun _=>X) ho hw hk (fun w1 _=>hr w1) (fun w1 _=>he w1) (fun w1 h1=>?_)
 have hF1:=L.rely hF h1
 have hl:=L.lt w1 hF1
 refine hn w1.heap.size _ (L.keep w1 _ (fun y hy=>?_) (by show w1.heap.size≤(w1.heap.push X).size;simp) hF1) (by simp) (fun c=>by have:=hl _ (Or.inl c);omega) (fun c=>by have:=hl _ (Or.inr (Or.inl c));omega) (fun c=>by have:=hl T (Or.inr (Or.inr rfl));omega)
 have:=hl y (hy.imp id Or.inl)
 show(w1.heap.push X)[y]?=_
 rw[Array.getElem?_push,if_neg (by omega)]
theorem set3 {w:World}{x:Nat}{a0 a1 a2 v0 v1 v2:Value}{t:TypeId}(h:w.heap[x]?=some (.cells #[a0,a1,a2] t)):(((w.setCell ⟨x,0,none⟩ v0).setCell ⟨x,1,none⟩ v1).setCell ⟨x,2,none⟩ v2).heap[x]?=some (.cells #[v0,v1,v2] t):=set_of (set_of (set_of h 0 v0) 1 v1) 2 v2
theorem hg_store3 {x:Nat}{a0 a1 a2 v0 v1 v2:Value}{t:TypeId}(RL:∀ {w w1:World}, F w→Rly rd Lv O w w1→F w1)(hF:F w)(hx:O x)(hX:∀w, F w→w.heap[x]?=some (.cells #[a0, a1, a2] t))(ho:ops[i]?=some o)(hw:Region.wanted o (yielded ops a.tmps)=true)(hk:b.kind ≠ .early)
  (hr:∀w1:World,w1.heap[x]?=some (.cells #[a0,a1,a2] t)→(execOp a.eval o).run P w1 = .ok .skip (((w1.setCell ⟨x,0,none⟩ v0).setCell ⟨x,1,none⟩ v1).setCell ⟨x,2,none⟩ v2))
  (he:∀w1:World,w1.heap[x]?=some (.cells #[a0,a1,a2] t)→(execOp a.eval o).events P w1 #[] = #[⟨.cell ⟨x,0,none⟩,true,false⟩,⟨.cell ⟨x,1,none⟩,true,false⟩,⟨.cell ⟨x,2,none⟩,true,false⟩])
  (hn:∀w2,(∃w1,F w1∧(∀y,y≠x→w2.heap[y]?=w1.heap[y]?)∧w2.heap.size=w1.heap.size)→w2.heap[x]?=some (.cells #[v0,v1,v2] t)→HG P main rd Lv Stop n O (G (b.at (a.put o.dst undef) (.inRegion ops rest::k)) cs) w2):HG P main rd Lv Stop (n+1) O (G (b.at a (.inRegion ops (i::rest)::k)) cs) w:=by
 have h1:∀w1,Rly rd Lv O w w1→w1.heap[x]?=some (.cells #[a0,a1,a2] t):=fun w1 r=>hX w1 (RL hF r)
 refine hg_store (fun w1=>((w1.setCell ⟨x,0,none⟩ v0).setCell ⟨x,1,none⟩ v1).setCell ⟨x,2,none⟩ v2) ho hw hk (fun w1 r=>hr w1 (h1 w1 r)) (fun w1 _=>⟨by rw[size_setCell,size_setCell,size_setCell],⟨rfl,rfl,rfl⟩,fun y hy=>?_⟩) (fun w1 r e hm=>?_) (fun w1 r=>?_)
 ·have hne:y≠x:=fun e=>hy (e▸hx)
  rw[heap_setCell,if_neg hne,heap_setCell,if_neg hne,heap_setCell,if_neg hne]
 ·rw[he w1 (h1 w1 r)]at hm
  have hl:=lt_of_some (h1 w1 r)
  simp only[List.mem_toArray,List.mem_cons,List.not_mem_nil,or_false]at hm
  rcases hm with rfl|rfl|rfl<;>exact⟨rfl,hl,Or.inl hx⟩
 ·refine hn _ ⟨w1,RL hF r,fun y hne=>?_,by rw[size_setCell,size_setCell,size_setCell]⟩ (set3 (h1 w1 r))
  rw[heap_setCell,if_neg hne,heap_setCell,if_neg hne,heap_setCell,if_neg hne]
theorem hg_load3 {x:Nat}{a0 a1 a2:Value}{t:TypeId}(RL:∀ {w w1:World}, F w→Rly rd Lv O w w1→F w1)(hF:F w)(hx:O x)(hX:∀w, F w→w.heap[x]?=some (.cells #[a0, a1, a2] t))(ho:ops[i]?=some o)(hw:Region.wanted o (yielded ops a.tmps)=true)(hk:b.kind ≠ .early)
  (hr:∀w1:World,w1.heap[x]?=some (.cells #[a0,a1,a2] t)→(execOp a.eval o).run P w1 = .ok (.value (.agg #[a0,a1,a2])) w1)
  (he:∀w1:World,w1.heap[x]?=some (.cells #[a0,a1,a2] t)→(execOp a.eval o).events P w1 #[] = #[⟨.cell ⟨x,0,none⟩,false,false⟩,⟨.cell ⟨x,1,none⟩,false,false⟩,⟨.cell ⟨x,2,none⟩,false,false⟩])
  (hn:HG P main rd Lv Stop n O (G (b.at (a.put o.dst (.agg #[a0,a1,a2])) (.inRegion ops rest::k)) cs) w):HG P main rd Lv Stop (n+1) O (G (b.at a (.inRegion ops (i::rest)::k)) cs) w:=by
 have h1:∀w1,Rly rd Lv O w w1→w1.heap[x]?=some (.cells #[a0,a1,a2] t):=fun w1 r=>hX w1 (RL hF r)
 refine hg_value (.agg #[a0,a1,a2]) ho hw hk (fun w1 r=>hr w1 (h1 w1 r)) (fun w1 r e hm=>?_) hn
 rw[he w1 (h1 w1 r)]at hm
 have hl:=lt_of_some (h1 w1 r)
 simp only[List.mem_toArray,List.mem_cons,List.not_mem_nil,or_false]at hm
 rcases hm with rfl|rfl|rfl<;>exact⟨rfl,hl,Or.inl hx⟩
end
end
section
open Go.Conc Go.RowKit Go.ConcR.Gen
section
variable {P:Program}{main:Bool}{rd:Nat→Prop}{Lv:World→Prop}{O:Nat→Prop}{w w1:World}{Stop:(Nat→Prop)→Goroutine→World→Prop}{T n:Nat}{F:World→Prop}{b:Frame}{a:Act}{ops:Array Oper}{i:Nat}{rest:List Nat}{k:List Item}{cs:List Frame}{o:Oper}{todo:List Item}
theorem hg_call {f : FuncId} {fn : Func} {args : Array Operand} {ats : Array TypeId} {vs : Array Value} (ho : ops[i]? = some o) (hw : Region.wanted o (yielded ops a.tmps) = true) (hk : b.kind ≠ .early) (hop : o.op = .call { callee := .value (.func f), args, argTypes := ats }) (hf : P.funcs[f]? = some fn) (hname : (fn.name == "runtime.NumGoroutine") = false) (hb : fn.body.isNone = false) (hv : args.map a.eval = vs)
   (hn:HG P main rd Lv Stop n O (G (Frame.enter P f vs .normal) (b.at a (.inRegion ops (i::rest)::k)::cs)) w):HG P main rd Lv Stop (n+1) O (G (b.at a (.inRegion ops (i::rest)::k)) cs) w:=by
 subst hv
 exact hg_enter ho hw hk (fun w1=>run_call_body hop hf hname hb) (fun w1=>events_call_body hop hf hname hb _) hn
theorem hg_leave3 {x:Nat}{a0 a1 a2:Value}{t:TypeId}{fn:Func}{c:Frame}(RL:∀ {w w1:World}, F w→Rly rd Lv O w w1→F w1)(hF:F w)(hx:O x)(hX:∀w, F w→w.heap[x]?=some (.cells #[a0, a1, a2] t))(hn:b.kind = .normal)(hd:a.defers=[])(hf:P.funcs[b.fn]?=some fn)
  (hr:∀w1:World,w1.heap[x]?=some (.cells #[a0,a1,a2] t)→(results fn a.tmps).run P w1 = .ok (.agg #[a0,a1,a2]) w1)
  (he:∀w1:World,w1.heap[x]?=some (.cells #[a0,a1,a2] t)→(results fn a.tmps).events P w1 #[] = #[⟨.cell ⟨x,0,none⟩,false,false⟩,⟨.cell ⟨x,1,none⟩,false,false⟩,⟨.cell ⟨x,2,none⟩,false,false⟩])
  (hc:HG P main rd Lv Stop n O (G (c.finish (.agg #[a0,a1,a2])) cs) w):HG P main rd Lv Stop (n+1) O (G { b.at a todo with mode:= .returning } (c::cs)) w:=by
 refine HG.step rfl fun w1 r=>?_
 have h1:w1.heap[x]?=some (.cells #[a0,a1,a2] t):=hX w1 (RL hF r)
 have hst:stepG P main (G { b.at a todo with mode:= .returning } (c::cs)) w1 = .go (G (c.finish (.agg #[a0,a1,a2])) cs) w1 (seen P b.fn ((results fn a.tmps).events P w1 #[])):=by
  simp[G,stepG,unwind,doReturn,Frame.at,hn,hd,hf,hr w1 h1,GStep.after]
 rw[hst]
 refine⟨⟨rfl,rfl,rfl,Nat.le_refl _,fun _ _ _=>rfl,fun e hm=>?_⟩,by rw[grw_idle];exact hc.rely r⟩
 have hm:=seen_sub P b.fn _ e hm
 rw[he w1 h1]at hm
 rw[grw_idle]
 have hl:=lt_of_some h1
 simp only[List.mem_toArray,List.mem_cons,List.not_mem_nil,or_false]at hm
 rcases hm with rfl|rfl|rfl<;>exact⟨rfl,hl,Or.inl hx⟩
end
end
section
open Go.Conc Go.RowKit Go.ConcR.Gen
def ctBodyx(f:Func):Code:=match f.body with|some c=>c|_=> .skip
def ctC1x(f:Func):Code:=match ctBodyx f with | .seq _ c=>c|_=> .skip
def ctR1x(f:Func):Array Oper:=match ctC1x f with | .seq (.region _ ops _) _=>ops|_ => #[]
def ctC2x(f:Func):Code:=match ctC1x f with | .seq _ c=>c|_=> .skip
def ctC3x(f:Func):Code:=match ctC2x f with | .seq _ c=>c|_=> .skip
section
variable {rd:Nat→Prop}{Lv:World→Prop}{O:Nat→Prop}{w:World}{Next:(Nat→Prop)→Goroutine→World→Prop}{n m T x y:Nat}{F:World→Prop}{b₀:Frame}{a₀:Act}{ops:Array Oper}{i:Nat}{rest:List Nat}{k:List Item}{cs:List Frame}{go:Option Addr}{gn gc:Nat}{e:Int}{l:Bool}
def CtF(F:World→Prop)(x y:Nat)(go:Option Addr)(gn gc:Nat)(e:Int)(l:Bool)(w:World):Prop:=
 (F w∧w.heap[x]?=some (.cells #[.slice go gn gc,.int .i64 e,.bool l] 39))∧w.heap[y]?=some (.cells #[.slice none 0 0,.int .i64 0,.bool false] 39)
set_option maxRecDepth 100000 in
set_option maxHeartbeats 4000000 in
theorem count_end(L:FLoc rd O T F)(hx:x≠T)(hy:y≠T)(hxy:x≠y)(hOy:¬O y)(hry:¬rd y){t0 t1 t2 t5 t6 t7 t8 t9 t10 t11 t12 t13 t14 t15 t16 t17:Value}
  (hcont:∀w O',(∀b,O b→O' b)→F w→HG Tryz.prog false rd Lv Next m O' (G ((b₀.at a₀ (.inRegion ops (i::rest)::k)).finish (.agg #[.slice go gn gc,.int .i64 e,.bool l])) cs) w) (hF:CtF F x y go gn gc e l w) :
  HG Tryz.prog false rd Lv Next (m+40) (fun z=>(O z∨z=x)∨z=y) (G ((base 28).at ⟨#[t0,t1,t2,.pointer (some ⟨x,0,none⟩),.pointer (some ⟨y,0,none⟩),t5,t6,t7,t8,t9,t10,t11,t12,t13,t14,t15,t16,t17],[]⟩ [.code (ctC3x Tryz.f28)]) (b₀.at a₀ (.inRegion ops (i::rest)::k)::cs)) w:=by
 have L1:=L.more (.cells #[.slice go gn gc,.int .i64 e,.bool l] 39) hx
 have L2:=L1.more (.cells #[.slice none 0 0,.int .i64 0,.bool false] 39) hy
 have L3:=L1.more (.cells #[.slice go gn gc,.int .i64 e,.bool l] 39) hy
 simp only[ctC3x,ctC2x,ctC1x,ctBodyx,Tryz.f28]
 have RL:∀ {w w1:World},CtF F x y go gn gc e l w→Rly rd Lv (fun z=>(O z∨z=x)∨z=y) w w1→CtF F x y go gn gc e l w1:=fun h r=>L2.rely h r
 refine goes_hg (n:=10) (m:=m+30) ?_
 u_c stepG_seq RL hF
 u_reg RL hF
 refine Goes.stop (fun w₁ h₁=>?_)
 replace hF:=RL hF h₁
 clear h₁
 refine hg_up 20 (n:=m+10) ?_
 refine hg_load3 (x:=x) RL hF (Or.inl (Or.inr rfl)) (fun w h=>h.1.2) rfl rfl (by decide) (fun w1 h1=>?_) (fun w1 h1=>?_) ?_
 ·have c0:=cell_of (o:=0) h1 rfl
  have c1:=cell_of (o:=1) h1 rfl
  have c2:=cell_of (o:=2) h1 rfl
  go_simp
 ·have c0:=cell_of (o:=0) h1 rfl
  have c1:=cell_of (o:=1) h1 rfl
  have c2:=cell_of (o:=2) h1 rfl
  simp[go_sem, *]
 walk_nrm
 refine hg_store3 (x:=y) (v0:=(.slice go gn gc)) (v1:= .int .i64 e) (v2:= .bool l) RL hF (Or.inr rfl) (fun w h=>h.2) rfl rfl (by decide) (fun w1 h1=>?_) (fun w1 h1=>?_) (fun w2 hw2 hy2=>?_)
 ·have c0:=cell_of (o:=0) h1 rfl
  have f0:=thaw_of h1 0
  have h2:=set_of h1 0 (.slice go gn gc)
  have c1:=cell_of (o:=1) h2 rfl
  have f1:=thaw_of h2 1
  have h3:=set_of h2 1 (.int .i64 e)
  have c2:=cell_of (o:=2) h3 rfl
  have f2:=thaw_of h3 2
  go_simp
 ·have c0:=cell_of (o:=0) h1 rfl
  have f0:=thaw_of h1 0
  have h2:=set_of h1 0 (.slice go gn gc)
  have c1:=cell_of (o:=1) h2 rfl
  have f1:=thaw_of h2 1
  have h3:=set_of h2 1 (.int .i64 e)
  have c2:=cell_of (o:=2) h3 rfl
  have f2:=thaw_of h3 2
  simp[go_sem, *]
  rw[events_store (hv:=rfl),events_store (hv:=rfl),c0,c2]
  simp only[f0,f2]
  rfl
 ·replace hF:(F w2∧w2.heap[x]?=some (.cells #[.slice go gn gc,.int .i64 e,.bool l] 39))∧w2.heap[y]?=some (.cells #[.slice go gn gc,.int .i64 e,.bool l] 39):=by
   obtain⟨w1,f1,hs,hz⟩:=hw2
   refine⟨L1.keep w1 w2 (fun b hb=>hs b fun e=>?_) (by omega) f1.1,hy2⟩
   subst e
   exact hb.elim (fun h=>h.elim hOy fun h=>hxy h.symm) hry
  clear hw2 hy2
  have RL:∀ {w w1:World},((F w∧w.heap[x]?=some (.cells #[.slice go gn gc,.int .i64 e,.bool l] 39))∧w.heap[y]?=some (.cells #[.slice go gn gc,.int .i64 e,.bool l] 39))→Rly rd Lv (fun z=>(O z∨z=x)∨z=y) w w1→((F w1∧w1.heap[x]?=some (.cells #[.slice go gn gc,.int .i64 e,.bool l] 39))∧w1.heap[y]?=some (.cells #[.slice go gn gc,.int .i64 e,.bool l] 39)):=fun h r=>L3.rely h r
  walk_nrm
  refine goes_hg (n:=7) (m:=m+1) ?_
  u_c stepG_region_end RL hF
  u_c stepG_ret' RL hF
  refine Goes.stop (fun w₁ h₁=>?_)
  replace hF:=RL hF h₁
  clear h₁
  refine hg_leave3 (x:=y) (fn:=Tryz.f28) (t:=39) RL hF (Or.inr rfl) (fun w h=>h.2) rfl rfl Tryz.func28 (fun w1 h1=>?_) (fun w1 h1=>?_) ?_
  ·have c0:=cell_of (o:=0) h1 rfl
   have c1:=cell_of (o:=1) h1 rfl
   have c2:=cell_of (o:=2) h1 rfl
   simp only[Tryz.f28,results]
   go_simp
  ·have c0:=cell_of (o:=0) h1 rfl
   have c1:=cell_of (o:=1) h1 rfl
   have c2:=cell_of (o:=2) h1 rfl
   simp only[Tryz.f28]
   simp[go_sem,results, *]
  ·exact hcont _ _ (fun b hb=>Or.inl (Or.inl hb)) hF.1.1
set_option maxRecDepth 100000 in
set_option maxHeartbeats 4000000 in
theorem count_lost(L:FLoc rd O T F)(hx:x≠T)(hy:y≠T)(hxy:x≠y)(hOy:¬O y)(hry:¬rd y){t2 t5 t6 t7 t8 t9 t10 t11 t12 t13 t14 t15 t16 t17:Value}{t1:Value}
  (hcont:∀w O',(∀b,O b→O' b)→F w→HG Tryz.prog false rd Lv Next m O' (G ((b₀.at a₀ (.inRegion ops (i::rest)::k)).finish (.agg #[.slice go gn gc,.int .i64 e,.bool true])) cs) w) (hF:CtF F x y go gn gc e true w) :
  HG Tryz.prog false rd Lv (AtAdd rd Lv Next (m+80) T 1 1) 80 (fun z=>(O z∨z=x)∨z=y) (G ((base 28).at ⟨#[.pointer (some ⟨T,0,none⟩),t1,t2,.pointer (some ⟨x,0,none⟩),.pointer (some ⟨y,0,none⟩),t5,t6,t7,t8,t9,t10,t11,t12,t13,t14,t15,t16,t17],[]⟩ [.code (ctC2x Tryz.f28)]) (b₀.at a₀ (.inRegion ops (i::rest)::k)::cs)) w:=by
 have L1:=L.more (.cells #[.slice go gn gc,.int .i64 e,.bool true] 39) hx
 have L2:=L1.more (.cells #[.slice none 0 0,.int .i64 0,.bool false] 39) hy
 have RL:∀ {w w1:World},CtF F x y go gn gc e true w→Rly rd Lv (fun z=>(O z∨z=x)∨z=y) w w1→CtF F x y go gn gc e true w1:=fun h r=>L2.rely h r
 have hend:∀(v:Value) (w:World),CtF F x y go gn gc e true w→HG Tryz.prog false rd Lv Next (m+40) (fun z=>(O z∨z=x)∨z=y) (G ((base 28).at ⟨#[.pointer (some ⟨T,0,none⟩),t1,t2,.pointer (some ⟨x,0,none⟩),.pointer (some ⟨y,0,none⟩),t5,t6,t7,t8,t9,t10,.pointer (some ⟨x,2,none⟩),.bool true,.pointer (some ⟨T,0,none⟩),.pointer (some ⟨T,0,none⟩),.pointer (some ⟨T,1,none⟩),v,t17],[]⟩ [.code (ctC3x Tryz.f28)]) (b₀.at a₀ (.inRegion ops (i::rest)::k)::cs)) w:=fun v w hF=>count_end L hx hy hxy hOy hry hcont hF
 generalize hgC:(ctC3x Tryz.f28)=C3 at hend
 simp only[ctC2x,ctC1x,ctBodyx,Tryz.f28]
 simp only[ctC3x,ctC2x,ctC1x,ctBodyx,Tryz.f28]at hgC
 rw[hgC]
 refine goes_hg (n:=10) (m:=70) ?_
 u_c stepG_seq RL hF
 u_c stepG_seq RL hF
 u_reg RL hF
 u_op RL hF
 refine Goes.stop (fun w₁ h₁=>?_)
 replace hF:=RL hF h₁
 clear h₁
 refine hg_up 38 (n:=32) ?_
 refine hg_load (.bool true) rfl rfl (by decide) (Or.inr (Or.inl (Or.inr rfl))) (cell_of (o:=2) hF.1.2 rfl) (fun w1 h1=>by go_simp) (fun w1 h1=>by simp[go_sem, *]) ?_
 walk_nrm
 refine goes_hg (n:=10) (m:=21) ?_
 u_c stepG_region_end RL hF
 u_cond true RL hF
 u_reg RL hF
 u_op RL hF
 u_op RL hF
 u_op RL hF
 refine Goes.stop (fun w₁ h₁=>?_)
 replace hF:=RL hF h₁
 clear h₁
 refine hg_call (f:=55) (vs := #[.pointer (some ⟨T,1,none⟩),.int .i64 1]) rfl rfl (by decide) rfl Tryz.func55 (by kernel_rfl) (by kernel_rfl) (by go_simp) ?_
 refine add_walk (m:=m+60) RL (fun w v h=>L2.setT w v h) (fun v w hF=>?_) hF
 walk_nrm
 refine goes_hg (n:=20) (m:=m+40) ?_
 u_c stepG_region_end RL hF
 refine Goes.stop (fun w₁ h₁=>?_)
 exact hend _ _ (RL hF h₁)
end
end
end Go.Proofs.YtedifobeggabnaaGreat
