/- Texts of ours, one behind the other: ZL5 ZL6 ZL7 ZL8 ZL9. -/
import Derived.Test.YtedifobeggabnaaGreatCbZK2
namespace Go.Proofs.YtedifobeggabnaaGreat
section
open Go.RowKit Go.Sort
open Go.Conc
theorem wpN_add {P:Program}{m:Nat}{R:Act→World→Prop}:∀(n:Nat) (c:Code) (a:Act) (w:World),wpN P n c (fun a w=>wpN P m (tlN n c) R a w) a w→wpN P (n+m) c R a w:=by
 intro n
 induction n with
 | zero=>intro c a w h;rw[Nat.zero_add];cases c<;>exact h
 | succ n ih=>
  intro c a w h
  rw[Nat.succ_add]
  cases c with
  | seq x y=>exact Code.wp_mono (fun e a w h=>⟨h.1,ih y a w h.2⟩) h
  | _=>cases m<;>exact h
theorem wpN_mono {P:Program}{R R':Act→World→Prop}(hR:∀a w,R a w→R' a w):∀(n:Nat) (c:Code) (a:Act) (w:World),wpN P n c R a w→wpN P n c R' a w:=by
 intro n
 induction n with
 | zero=>intro c a w h;cases c<;>exact hR _ _ h
 | succ n ih=>
  intro c a w h
  cases c with
  | seq x y=>exact Code.wp_mono (fun e a w h=>⟨h.1,ih y a w h.2⟩) h
  | _=>exact hR _ _ h
theorem COk.lift2 {P:Program}{l:List (Nat×Nat×Nat)}{c:Code}(h:codB P (memB tpL) c=true):COk P (fxT l) c:=COk.lift (F:=fxB (memB tpL)) (F':=fxT l) (fun _ h=>h) (codB_ok h)
def rawL(ao:Option Addr)(n:Nat):List (Nat×Nat×Nat):=match ao with
 | some a=>[(a.block,a.off,if n=0 then 0 else a.off+n)]
 | none=>[]
theorem rawL_mem {ao:Option Addr}{n b lo hi:Nat}(h:wnK (rawL ao n) b=some (lo,hi)):∃a,ao=some a∧b=a.block∧lo=a.off∧hi=if n=0 then 0 else a.off+n:=by
 have:=wnK_mem h
 unfold rawL at this
 split at this
 ·rename_i a
  simp only[List.mem_singleton,Prod.mk.injEq]at this
  exact⟨a,rfl,this⟩
 ·simp at this
theorem rawL_at(a:Addr)(n:Nat):wnK (rawL (some a) n) a.block=some (a.off,if n=0 then 0 else a.off+n):=by
 simp[wnK,rawL]
section
variable {ao:Option Addr}{n0 ca:Nat}{z:Nat→Int}{W W1:World}{Q:Nat→Prop}
def RawB(ao:Option Addr)(W:World):Prop:=∀a,ao=some a→∃c t y,W.heap[a.block]?=some (.cells c t y)
theorem raw_clp(ha:Arg ao n0 ca z W)(hr:RawB ao W)(hQ:∀b, Q b→wnK (rawL ao n0) b=none∧∃o, W.heap[b]?=some o∧OOk (fun b=>(wnK (rawL ao n0) b).isSome=true∨Q b) (fxT (rawL ao n0)) o) :
  VW (fun b=>(wnK (rawL ao n0) b).isSome=true∨Q b) (fxT (rawL ao n0)) W.heap.size W (clpW wtN (wnK (rawL ao n0)) W) W∧Blk (Sto (fun b=>(wnK (rawL ao n0) b).isSome=true∨Q b) W.heap.size (clpW wtN (wnK (rawL ao n0)) W).heap.size) (fxT (rawL ao n0)) (clpW wtN (wnK (rawL ao n0)) W)∧ClF (fxT (rawL ao n0)) W.heap.size (clpW wtN (wnK (rawL ao n0)) W):=by
 refine clp_ok (l:=fun g=>memB tpL g=true) (wt:=wtN) (W:=W) (K:=wnK (rawL ao n0)) (fun b lo hi k=>?_) hQ
 obtain⟨a,rfl,rfl,rfl,rfl⟩:=rawL_mem k
 obtain⟨c,t,y,e⟩:=hr a rfl
 refine⟨c,t,y,e,?_,fun i h1 h2=>?_⟩
 ·split
  ·omega
  ·obtain⟨b,off,e1,e2⟩:=ha.sl (n0-1) (by omega)
   cases e1
   obtain⟨c',t',y',e4,_,e5⟩:=load_cell e2
   have e:W.heap[b]?=_:=e
   rw[e]at e4
   cases e4
   have e6:off+(n0-1)<c.size:=(Array.getElem?_eq_some_iff.1 e5).1
   show off+n0≤_
   omega
 ·split at h2
  ·omega
  ·have h1:a.off≤i:=h1
   obtain⟨b,off,e1,e2⟩:=ha.sl (i-a.off) (by omega)
   cases e1
   have e3:off+(i-off)=i:=by
    have h1:off≤i:=h1
    omega
   have e2:W.cell? ⟨b,off+(i-off),none⟩=_:=e2
   rw[e3]at e2
   obtain⟨c',t',y',e4,_,e5⟩:=load_cell e2
   have e:W.heap[b]?=_:=e
   rw[e]at e4
   cases e4
   have e5:c[i]?=_:=e5
   simp[Array.getD_eq_getD_getElem?,e5,VOk]
theorem raw_ok {S:Nat→Prop}(hS:∀b,(wnK (rawL ao n0) b).isSome=true→S b):VOk S (fxT (rawL ao n0)) (.slice ao n0 ca):=by
 rw[VOk]
 rintro a rfl
 have k:=rawL_at a n0
 refine⟨hS _ (by rw[k];rfl),fun _=>?_⟩
 show((wnK (rawL (some a) n0) a.block).map (·.1)).getD 0≤a.off
 rw[k]
 exact Nat.le_refl _
theorem raw_arg(ha:Arg ao n0 ca z W):Arg ao n0 ca z (clpW wtN (wnK (rawL ao n0)) W):=by
 refine⟨fun j hj=>?_,?_,ha.few,ha.nil,ha.le,ha.cap⟩
 ·obtain⟨b,off,rfl,e⟩:=ha.sl j hj
  refine⟨b,off,rfl,clpW_cell (rawL_at ⟨b,off,none⟩ n0) (Nat.le_add_right _ _) ?_ e⟩
  rw[if_neg (by omega)]
  show off+j<off+n0
  omega
 ·rw[clpW_size]
  exact ha.lt
end
theorem tl_tail5:tlN 5 (tlC Tryz.f5 0)=tlC Tryz.f5 5:=by kernel_rfl
theorem tl_pre {ao:Option Addr}{n0 ca:Nat}{z:Nat→Int}(q n k many h1 h2:Int)(hq:I64 q)(hn:I64 n)(hk:I64 k)(hm:I64 many):∃(D:FD) (N K M:Nat), D∈fieldsL∧1≤N∧N≤9∧N≤D.q∧1≤K∧K≤N∧M≤8∧∀w:World, Arg ao n0 ca z w→n0≤256 →
  wpN Tryz.prog 11 (tlC Tryz.f5 0) (fun a w'=>∃B gx c vs Z l mv lv,TlB ao n0 ca D N K M h1 h2 gx mv lv a∧TlM B gx D N K M ((N-K) / 2) M M 0 c vs Z l mv lv w'∧Perm' D.q c∧w.heap.size≤gx) ⟨#[.slice ao n0 ca,.int .i64 q,.int .i64 n,.int .i64 k,.int .i64 many,.int .i64 h1,.int .i64 h2,undef,undef,undef,undef,undef,undef,undef,undef,undef,undef,undef,undef,undef,undef,undef,undef,undef,undef,undef,undef,undef,undef,undef,undef,undef,undef,undef,undef,undef,undef,undef,undef,undef,undef,undef,undef,undef,undef,undef,undef,undef,undef,undef,undef,undef,undef,undef,undef,undef,undef,undef,undef,undef,undef,undef,undef,undef,undef,undef,undef,undef,undef,undef,undef,undef,undef,undef,undef,undef,undef,undef,undef,undef,undef,undef,undef,undef,undef,undef,undef,undef,undef,undef,undef,undef,undef,undef,undef,undef,undef,undef,undef,undef,undef,undef,undef,undef,undef,undef,undef,undef,undef,undef,undef,undef,undef,undef,undef,undef,undef,undef,undef,undef,undef,undef,undef,undef,undef,undef,undef,undef,undef,undef,undef,undef,undef,undef,undef,undef,undef,undef,undef,undef,undef,undef,undef,undef,undef,undef,undef,undef,undef,undef,undef,undef,undef,undef,undef,undef,undef,undef,undef,undef,undef,undef,undef,undef,undef,undef,undef,undef,undef,undef,undef,undef,undef,undef,undef,undef,undef,undef,undef,undef,undef,undef,undef,undef,undef,undef,undef,undef,undef,undef,undef,undef,undef,undef,undef,undef,undef,undef,undef,undef,undef,undef,undef,undef,undef,undef,undef,undef,undef,undef,undef],[]⟩ w:=by
 obtain⟨D,N,hD,hN1,hN9,hNq,hA⟩:=tl_preA (ao:=ao) (n0:=n0) (ca:=ca) (z:=z) q n k many h1 h2 hq hn
 obtain⟨K,M,hK1,hKN,hM,hB⟩:=tl_preB (ao:=ao) (n0:=n0) (ca:=ca) (z:=z) hD hN1 hN9 hNq k many h1 h2 hk hm
 refine⟨D,N,K,M,hD,hN1,hN9,hNq,hK1,hKN,hM,fun w ha hn0=>wpN_add (m:=6) 5 _ _ _ ?_⟩
 rw[tl_tail5]
 refine wpN_mono (fun a w' h=>?_) 5 _ _ _ (hA w ha hn0)
 refine wpN_mono (fun a' w'' h'=>?_) 6 _ _ _ (hB w' a (ha.below h.2) hn0 h.1)
 obtain⟨B,gx,c,vs,Z,l,mv,lv,e1,e2,e3,e4,e5⟩:=h'
 exact⟨B,gx,c,vs,Z,l,mv,lv,e1,e2,e3,Nat.le_trans h.2.size e4⟩
end
section
open Go.RowKit Go.Sort
open Go.Conc
def RawQ(ao:Option Addr)(n0:Nat)(b:Nat):Prop:=(wnK (rawL ao n0) b).isSome=true∨False
def RawS(ao:Option Addr)(n0 B N:Nat):Nat→Prop:=Sto (RawQ ao n0) B N
structure TlS(ao:Option Addr)(n0 ca:Nat)(W:World)(D:FD)(N K M:Nat)(h1 h2:Int)(B gx:Nat)(c:Nat→Nat)(vs:Nat→Value)(Z:Nat→Nat→Int)(l:List (Nat×Nat×Nat))(mv lv:Value)(a:Act)(W1:World):Prop where
 slot:TlB ao n0 ca D N K M h1 h2 gx mv lv a
 made:TlM B gx D N K M ((N-K) / 2) M M 0 c vs Z l mv lv W1
 perm:Perm' D.q c
 ge:W.heap.size≤gx
 vals:∀v,v∈a.tmps→VOk (RawS ao n0 W.heap.size W1.heap.size) (fxT (rawL ao n0)) v
 blk:∀b,W.heap.size≤b→b<W1.heap.size→∃o,W1.heap[b]?=some o∧OOk (RawS ao n0 W.heap.size W1.heap.size) (fxT (rawL ao n0)) o
 old:∀b,b<W.heap.size→W1.heap[b]?=W.heap[b]?
 size:W.heap.size≤W1.heap.size
theorem tl_prg(l:List (Nat×Nat×Nat))(Q:Nat→Prop)(B:Nat):Prg Tryz.prog Q (fxT l) B:=⟨⟨fun b _=>by rw[show Tryz.prog.globals.size=0 by kernel_rfl];exact Nat.zero_le _,fun _ _=>wtN_no⟩,fxT_fns l⟩
theorem tl_fnE:FnE Tryz.prog 5:=⟨⟨Tryz.f5,Tryz.func5,rfl,by kernel_rfl⟩,by kernel_rfl⟩
theorem tl_cod:codB Tryz.prog (memB tpL) (trN 11 (tlC Tryz.f5 0))=true:=by kernel_rfl
theorem tl_cod2:codB Tryz.prog (memB tpL) (tlC Tryz.f5 13)=true:=by kernel_rfl
theorem tl_tail:tlN 11 (tlC Tryz.f5 0)=tlC Tryz.f5 11:=by kernel_rfl
theorem undef_ok {S:Nat→Prop}{F:Fx}:VOk S F undef:=by simp[undef,VOk]
set_option maxRecDepth 100000 in
theorem tl_start {ao:Option Addr}{n0 ca:Nat}{z:Nat→Int}{W:World}(ha:Arg ao n0 ca z W)(hr:RawB ao W)(hn0:n0≤256)(q n k many h1 h2:Int)(hq:I64 q)(hn:I64 n)(hk:I64 k)(hm:I64 many) :
  ∃(D:FD) (N K M:Nat),D∈fieldsL∧1≤N∧N≤9∧N≤D.q∧1≤K∧K≤N∧M≤8∧∀(Stop:(Nat→Prop)→Goroutine→World→Prop),
   (∀B gx c vs Z l mv lv a W1,TlS ao n0 ca W D N K M h1 h2 B gx c vs Z l mv lv a W1→Wk Tryz.prog Stop (OwnB (fun b=>b<W.heap.size) W.heap.size W1) (G ((base 5).at a [.code (tlC Tryz.f5 11)]) []) W1)→
   Wk Tryz.prog Stop (fun b=>b<W.heap.size) (G (Frame.enter Tryz.prog 5 #[.slice ao n0 ca,.int .i64 q,.int .i64 n,.int .i64 k,.int .i64 many,.int .i64 h1,.int .i64 h2] .normal) []) W:=by
 obtain⟨D,N,K,M,hD,hN1,hN9,hNq,hK1,hKN,hM,hw⟩:=tl_pre (ao:=ao) (n0:=n0) (ca:=ca) (z:=z) q n k many h1 h2 hq hn hk hm
 refine⟨D,N,K,M,hD,hN1,hN9,hNq,hK1,hKN,hM,fun Stop hcont=>?_⟩
 obtain⟨hvw,hblk,hcf⟩:=raw_clp (Q:=fun _=>False) ha hr (fun b hb=>hb.elim)
 have hsz:(clpW wtN (wnK (rawL ao n0)) W).heap.size=W.heap.size:=clpW_size
 have e0:Frame.enter Tryz.prog 5 #[.slice ao n0 ca,.int .i64 q,.int .i64 n,.int .i64 k,.int .i64 many,.int .i64 h1,.int .i64 h2] .normal=(base 5).at ⟨#[.slice ao n0 ca,.int .i64 q,.int .i64 n,.int .i64 k,.int .i64 many,.int .i64 h1,.int .i64 h2,undef,undef,undef,undef,undef,undef,undef,undef,undef,undef,undef,undef,undef,undef,undef,undef,undef,undef,undef,undef,undef,undef,undef,undef,undef,undef,undef,undef,undef,undef,undef,undef,undef,undef,undef,undef,undef,undef,undef,undef,undef,undef,undef,undef,undef,undef,undef,undef,undef,undef,undef,undef,undef,undef,undef,undef,undef,undef,undef,undef,undef,undef,undef,undef,undef,undef,undef,undef,undef,undef,undef,undef,undef,undef,undef,undef,undef,undef,undef,undef,undef,undef,undef,undef,undef,undef,undef,undef,undef,undef,undef,undef,undef,undef,undef,undef,undef,undef,undef,undef,undef,undef,undef,undef,undef,undef,undef,undef,undef,undef,undef,undef,undef,undef,undef,undef,undef,undef,undef,undef,undef,undef,undef,undef,undef,undef,undef,undef,undef,undef,undef,undef,undef,undef,undef,undef,undef,undef,undef,undef,undef,undef,undef,undef,undef,undef,undef,undef,undef,undef,undef,undef,undef,undef,undef,undef,undef,undef,undef,undef,undef,undef,undef,undef,undef,undef,undef,undef,undef,undef,undef,undef,undef,undef,undef,undef,undef,undef,undef,undef,undef,undef,undef,undef,undef,undef,undef,undef,undef,undef,undef,undef,undef,undef,undef,undef,undef,undef,undef,undef,undef,undef,undef,undef],[]⟩ [.code (tlC Tryz.f5 0)]:=(enter_at _ Tryz.func5 rfl).trans (by kernel_rfl)
 rw[e0]
 refine wpn_wk (n:=11) (Q:=RawQ ao n0) (F:=fxT (rawL ao n0)) (V:=clpW wtN (wnK (rawL ao n0)) W) (W0:=W) (R:=fun a w'=>∃B gx c vs Z l mv lv,TlB ao n0 ca D N K M h1 h2 gx mv lv a∧TlM B gx D N K M ((N-K) / 2) M M 0 c vs Z l mv lv w'∧Perm' D.q c∧W.heap.size≤gx)
  (tl_prg _ _ _) (fun b hb=>?_) hvw ⟨⟨tl_fnE,fun v hv=>?_,fun i hi=>by simp[Frame.at]at hi,rfl,rfl,rfl,Or.inl rfl⟩,fun c hc=>by simp at hc,hblk,by rw[hsz];exact Nat.le_refl _,hcf⟩ (COk.lift2 tl_cod) (fun T d=>?_) (fun a V T d hR=>?_) (fun a' V1 W1 hR hL hV=>?_)
 ·have:=(hvw.frz b (hb.elim id False.elim)).2.1
  rwa [hsz]at this
 ·have hv:v∈(⟨#[.slice ao n0 ca,.int .i64 q,.int .i64 n,.int .i64 k,.int .i64 many,.int .i64 h1,.int .i64 h2,undef,undef,undef,undef,undef,undef,undef,undef,undef,undef,undef,undef,undef,undef,undef,undef,undef,undef,undef,undef,undef,undef,undef,undef,undef,undef,undef,undef,undef,undef,undef,undef,undef,undef,undef,undef,undef,undef,undef,undef,undef,undef,undef,undef,undef,undef,undef,undef,undef,undef,undef,undef,undef,undef,undef,undef,undef,undef,undef,undef,undef,undef,undef,undef,undef,undef,undef,undef,undef,undef,undef,undef,undef,undef,undef,undef,undef,undef,undef,undef,undef,undef,undef,undef,undef,undef,undef,undef,undef,undef,undef,undef,undef,undef,undef,undef,undef,undef,undef,undef,undef,undef,undef,undef,undef,undef,undef,undef,undef,undef,undef,undef,undef,undef,undef,undef,undef,undef,undef,undef,undef,undef,undef,undef,undef,undef,undef,undef,undef,undef,undef,undef,undef,undef,undef,undef,undef,undef,undef,undef,undef,undef,undef,undef,undef,undef,undef,undef,undef,undef,undef,undef,undef,undef,undef,undef,undef,undef,undef,undef,undef,undef,undef,undef,undef,undef,undef,undef,undef,undef,undef,undef,undef,undef,undef,undef,undef,undef,undef,undef,undef,undef,undef,undef,undef,undef,undef,undef,undef,undef,undef,undef,undef,undef,undef,undef,undef,undef,undef,undef,undef,undef,undef,undef],[]⟩:Act).tmps:=hv
  simp only[List.mem_toArray,List.mem_cons,List.not_mem_nil,or_false]at hv
  rcases hv with rfl|rfl|rfl|rfl|rfl|rfl|rfl|hv
  ·exact raw_ok fun b hb=>Or.inl (Or.inl hb)
  ·exact ok_int _ _
  ·exact ok_int _ _
  ·exact ok_int _ _
  ·exact ok_int _ _
  ·exact ok_int _ _
  ·exact ok_int _ _
  ·simp only[or_self]at hv
   subst hv
   exact undef_ok
 ·refine wpN_mono (fun a w' h=>?_) 11 _ _ _ (hw (rtp (clpW wtN (wnK (rawL ao n0)) W) T d) ((raw_arg ha).rtp T d) hn0)
  obtain⟨B,gx,c,vs,Z,l,mv,lv,e1,e2,e3,e4⟩:=h
  exact⟨B,gx,c,vs,Z,l,mv,lv,e1,e2,e3,by rw[←hsz];exact e4⟩
 ·obtain⟨B,gx,c,vs,Z,l,mv,lv,e1,e2,e3,e4⟩:=hR
  exact⟨B,gx,c,vs,Z,l,mv,lv,e1,e2.cong (B0:=0) (fun x cs t _ e=>e) (Nat.zero_le _),e3,e4⟩
 ·obtain⟨B,gx,c,vs,Z,l,mv,lv,e1,e2,e3,e4⟩:=hR
  have hs1:=hV.size
  rw[tl_tail]
  refine hcont B gx c vs Z l mv lv a' W1 ⟨e1,e2.cong (B0:=W.heap.size) (fun x cs t hx e=>hV.new hL.blk (Or.inr ⟨hx,lt_of_some e⟩) (hL.cf.nw x hx) e) e4,e3,e4,fun v hv=>?_,fun b hb hl=>?_,fun b hb=>?_,hV.le⟩
  ·have:=hL.fr.tmps v hv
   rw[hs1]at this
   exact this
  ·have hs:Sto (RawQ ao n0) W.heap.size V1.heap.size b:=Or.inr ⟨hb,by rw[hs1];exact hl⟩
   obtain⟨o,ho,hk⟩:=hL.blk b hs (by rw[hs1];exact hl)
   obtain⟨o',ho',hal⟩:=hV.sim.blk b o (Or.inr hb) ho
   have hcl:=hL.cf.nw b hb
   refine⟨o',ho',?_⟩
   rw[hs1]at hk
   cases o with
   | cells c0 t0 z0=>
    obtain⟨c',t',z',rfl,hw',_,_⟩:=hal
    obtain rfl:=hw'.1 hcl
    intro v hv
    obtain⟨u,hu,rfl⟩:=Array.mem_map.1 hv
    have:=hk u hu
    rw[rnV_id this]
    exact this
   | number x y=>
    have e:o' = .number (rnA id x) y:=hal
    subst e
    exact hk
   | _=>exact hk.elim
  ·by_cases hq:RawQ ao n0 b
   ·exact(hV.frz b (hq.elim id False.elim)).2.2.2
   ·exact hV.old b hb hq
end
section
open Go.Conc Go.RowKit Go.ConcR.Gen
open Go.ConcN.Gen
theorem see_none(W:World):SeeR Tryz.prog (fun _=>none) [] W (fxT []) (fun b=>(wnK [] b).isSome=true∨False) (clpW wtN (wnK []) W):=by
 obtain⟨h1,h2,h3⟩:=clp_ok (l:=fun g=>memB tpL g=true) (wt:=wtN) (W:=W) (K:=wnK []) (Q:=fun _=>False) (fun b lo hi k=>by simp[wnK]at k) (fun b hb=>hb.elim)
 exact⟨fxT_fns [],fun _ _=>wtN_no,fun b hb=>by simp[wnK]at hb,h1,h2,h3,fun v hv=>by simp at hv⟩
def hdC:Code→Code
 | .seq a _=>a
 | _=> .skip
theorem tl_split:tlC Tryz.f5 11 = .seq (hdC (tlC Tryz.f5 11)) (.seq (hdC (tlC Tryz.f5 12)) (tlC Tryz.f5 13)):=by kernel_rfl
section
variable {ao:Option Addr}{n0 ca:Nat}{D:FD}{N K M gx:Nat}{h1 h2:Int}{mv lv:Value}{a:Act}{P1 H1 P2 H2:Nat}
set_option maxRecDepth 100000 in
theorem TlB.fn(h:TlB ao n0 ca D N K M h1 h2 gx mv lv a):∃f:Nat→Value,a=⟨#[.slice ao n0 ca,.int .i64 (D.q:Nat),.int .i64 (N:Nat),.int .i64 (K:Nat),.int .i64 (M:Nat),.int .i64 h1,.int .i64 h2,undef,undef,undef,undef,undef,undef,undef,.bool false,.slice (some ⟨gx,0,none⟩) N D.q,mv,lv,.int .i64 (M:Nat),f 0,undef,undef,undef,undef,undef,undef,undef,undef,undef,f 1,f 2,f 3,f 4,f 5,f 6,f 7,f 8,f 9,f 10,f 11,f 12,f 13,f 14,f 15,f 16,f 17,f 18,f 19,f 20,f 21,f 22,f 23,f 24,f 25,f 26,f 27,f 28,f 29,f 30,f 31,f 32,f 33,f 34,f 35,f 36,f 37,f 38,f 39,f 40,f 41,f 42,f 43,f 44,f 45,f 46,f 47,f 48,f 49,f 50,f 51,f 52,f 53,f 54,f 55,f 56,f 57,f 58,f 59,f 60,f 61,f 62,f 63,f 64,f 65,f 66,f 67,undef,undef,undef,undef,undef,undef,undef,undef,undef,undef,undef,undef,undef,undef,undef,undef,undef,undef,undef,undef,undef,undef,undef,undef,undef,undef,undef,undef,undef,undef,undef,undef,undef,undef,undef,undef,undef,undef,undef,undef,undef,undef,undef,undef,undef,undef,undef,undef,undef,undef,undef,undef,undef,undef,undef,undef,undef,undef,undef,undef,undef,undef,undef,undef,undef,undef,undef,undef,undef,undef,undef,undef,undef,undef,undef,undef,undef,undef,undef,undef,undef,undef,undef,undef,undef,undef,undef,undef,undef,undef,undef,undef,undef,undef,undef,undef,undef,undef,undef,undef,undef,undef,undef,undef,undef,undef,undef,undef,undef,undef,undef,undef,undef,undef,undef],[]⟩∧∀i,f i∈a.tmps:=by
 obtain⟨v19,v29,v30,v31,v32,v33,v34,v35,v36,v37,v38,v39,v40,v41,v42,v43,v44,v45,v46,v47,v48,v49,v50,v51,v52,v53,v54,v55,v56,v57,v58,v59,v60,v61,v62,v63,v64,v65,v66,v67,v68,v69,v70,v71,v72,v73,v74,v75,v76,v77,v78,v79,v80,v81,v82,v83,v84,v85,v86,v87,v88,v89,v90,v91,v92,v93,v94,v95,rfl⟩:=h
 refine⟨fun i=>match i with|0=>v19|1=>v29|2=>v30|3=>v31|4=>v32|5=>v33|6=>v34|7=>v35|8=>v36|9=>v37|10=>v38|11=>v39|12=>v40|13=>v41|14=>v42|15=>v43|16=>v44|17=>v45|18=>v46|19=>v47|20=>v48|21=>v49|22=>v50|23=>v51|24=>v52|25=>v53|26=>v54|27=>v55|28=>v56|29=>v57|30=>v58|31=>v59|32=>v60|33=>v61|34=>v62|35=>v63|36=>v64|37=>v65|38=>v66|39=>v67|40=>v68|41=>v69|42=>v70|43=>v71|44=>v72|45=>v73|46=>v74|47=>v75|48=>v76|49=>v77|50=>v78|51=>v79|52=>v80|53=>v81|54=>v82|55=>v83|56=>v84|57=>v85|58=>v86|59=>v87|60=>v88|61=>v89|62=>v90|63=>v91|64=>v92|65=>v93|66=>v94|_=>v95,rfl,fun i=>?_⟩
 show(match i with|0=>v19|1=>v29|2=>v30|3=>v31|4=>v32|5=>v33|6=>v34|7=>v35|8=>v36|9=>v37|10=>v38|11=>v39|12=>v40|13=>v41|14=>v42|15=>v43|16=>v44|17=>v45|18=>v46|19=>v47|20=>v48|21=>v49|22=>v50|23=>v51|24=>v52|25=>v53|26=>v54|27=>v55|28=>v56|29=>v57|30=>v58|31=>v59|32=>v60|33=>v61|34=>v62|35=>v63|36=>v64|37=>v65|38=>v66|39=>v67|40=>v68|41=>v69|42=>v70|43=>v71|44=>v72|45=>v73|46=>v74|47=>v75|48=>v76|49=>v77|50=>v78|51=>v79|52=>v80|53=>v81|54=>v82|55=>v83|56=>v84|57=>v85|58=>v86|59=>v87|60=>v88|61=>v89|62=>v90|63=>v91|64=>v92|65=>v93|66=>v94|_=>v95)∈_
 split<;>simp
def TlE(ao:Option Addr)(n0 ca:Nat)(D:FD)(N K M:Nat)(h1 h2:Int)(gx:Nat)(mv lv:Value)(P1 H1 P2 H2 b1 b2:Nat)(x1 l1 x2 l2:Int)(S:Value→Prop)(a:Act):Prop:=∃f:Nat→Value,a=⟨#[.slice ao n0 ca,.int .i64 (D.q:Nat),.int .i64 (N:Nat),.int .i64 (K:Nat),.int .i64 (M:Nat),.int .i64 h1,.int .i64 h2,undef,undef,undef,undef,undef,undef,undef,.bool false,.slice (some ⟨gx,0,none⟩) N D.q,mv,lv,.int .i64 (M:Nat),f 0,.slice (some ⟨b1,0,none⟩) M M,.int .i64 x1,.int .i64 l1,.int .i64 0,.slice (some ⟨b2,0,none⟩) M M,.int .i64 x2,.int .i64 l2,.int .i64 0,undef,f 1,f 2,f 3,f 4,f 5,f 6,f 7,f 8,f 9,f 10,f 11,f 12,f 13,f 14,f 15,f 16,f 17,f 18,f 19,f 20,f 21,f 22,f 23,f 24,f 25,f 26,f 27,f 28,f 29,f 30,f 31,f 32,f 33,f 34,f 35,f 36,f 37,f 38,f 39,f 40,f 41,f 42,f 43,f 44,f 45,f 46,f 47,f 48,f 49,f 50,f 51,f 52,f 53,f 54,f 55,f 56,f 57,f 58,f 59,f 60,f 61,f 62,f 63,f 64,f 65,f 66,f 67,.tuple #[.slice (some ⟨b1,0,none⟩) M M,.int .i64 x1,.int .i64 l1,.int .i64 0],.int .i64 (D.q:Nat),.slice (some ⟨gx,0,none⟩) N D.q,.int .i64 (K:Nat),mv,lv,.int .i64 h1,.int .i64 (P1:Nat),.int .i64 (H1:Nat),.tuple #[.slice (some ⟨b1,0,none⟩) M M,.int .i64 x1,.int .i64 l1,.int .i64 0],.slice (some ⟨b1,0,none⟩) M M,.int .i64 x1,.int .i64 l1,.int .i64 0,.tuple #[.slice (some ⟨b2,0,none⟩) M M,.int .i64 x2,.int .i64 l2,.int .i64 0],.int .i64 (D.q:Nat),.slice (some ⟨gx,0,none⟩) N D.q,.int .i64 (K:Nat),mv,lv,.int .i64 h2,.int .i64 (P2:Nat),.int .i64 (H2:Nat),.tuple #[.slice (some ⟨b2,0,none⟩) M M,.int .i64 x2,.int .i64 l2,.int .i64 0],.slice (some ⟨b2,0,none⟩) M M,.int .i64 x2,.int .i64 l2,.int .i64 0,undef,undef,undef,undef,undef,undef,undef,undef,undef,undef,undef,undef,undef,undef,undef,undef,undef,undef,undef,undef,undef,undef,undef,undef,undef,undef,undef,undef,undef,undef,undef,undef,undef,undef,undef,undef,undef,undef,undef,undef,undef,undef,undef,undef,undef,undef,undef,undef,undef,undef,undef,undef,undef,undef,undef,undef,undef,undef,undef,undef,undef,undef,undef,undef,undef,undef,undef,undef,undef,undef,undef,undef,undef,undef,undef,undef,undef,undef,undef,undef,undef,undef,undef,undef,undef,undef,undef],[]⟩∧∀i,S (f i)
def TlC3(ao:Option Addr)(n0 ca:Nat)(D:FD)(N K M:Nat)(h1 h2:Int)(gx:Nat)(mv lv:Value)(P1 H1 P2 H2 b1:Nat)(x1 l1:Int)(S:Value→Prop)(fc:Frame):Prop:=
 ∀(b2:Nat) (x2 l2:Int) (Stop:(Nat→Prop)→Goroutine→World→Prop) (B:Nat) (h:Nat→Option Obj) (O:Nat→Prop) (w:World),Kp B h (fun _=>none) O w →
  (∀w' a',Kp B h (fun _=>none) O w'→TlE ao n0 ca D N K M h1 h2 gx mv lv P1 H1 P2 H2 b1 b2 x1 l1 x2 l2 S a'→Wk Tryz.prog Stop O (G ((base 5).at a' [.code (tlC Tryz.f5 13)]) []) w')→
  Wk Tryz.prog Stop O (G (fc.finish (.tuple #[.slice (some ⟨b2,0,none⟩) M M,.int .i64 x2,.int .i64 l2,.int .i64 0])) []) w
def TlC2(ao:Option Addr)(n0 ca:Nat)(D:FD)(N K M:Nat)(h1 h2:Int)(gx:Nat)(mv lv:Value)(P1 H1 P2 H2:Nat)(S:Value→Prop)(fc:Frame):Prop:=
 ∀(b1:Nat) (x1 l1:Int) (Stop:(Nat→Prop)→Goroutine→World→Prop) (B:Nat) (h:Nat→Option Obj) (O:Nat→Prop) (w:World),Kp B h (fun _=>none) O w →
  (∀fc' O' w',Kp B h (fun _=>none) O' w'→(∀b,O' b→O b∨B≤b)→TlC3 ao n0 ca D N K M h1 h2 gx mv lv P1 H1 P2 H2 b1 x1 l1 S fc'→Wk Tryz.prog Stop O' (G (Frame.enter Tryz.prog 9 #[.int .i64 (D.q:Nat),.slice (some ⟨gx,0,none⟩) N D.q,.int .i64 (K:Nat),mv,lv,.int .i64 (H2:Nat)] .normal) [fc']) w')→
  Wk Tryz.prog Stop O (G (fc.finish (.tuple #[.slice (some ⟨b1,0,none⟩) M M,.int .i64 x1,.int .i64 l1,.int .i64 0])) []) w
set_option maxRecDepth 100000 in
set_option maxHeartbeats 16000000 in
theorem tl_runs {Stop:(Nat→Prop)→Goroutine→World→Prop}{B:Nat}{h:Nat→Option Obj}{O:Nat→Prop}{w:World}{S:Value→Prop}(hK:Kp B h (fun _=>none) O w)(hs:TlB ao n0 ca D N K M h1 h2 gx mv lv a)(hv:∀v, v∈a.tmps→S v)
  (hP1:∀w:World,Calls Tryz.prog 15 #[.int .i64 h1,.int .i64 8] w fun e w'=>e = .returned (.int .i64 (P1:Nat))∧w'=w) (hw1:IntKind.i64.wrap (1+(P1:Int))=(H1:Int))
  (hP2:∀w:World,Calls Tryz.prog 15 #[.int .i64 h2,.int .i64 8] w fun e w'=>e = .returned (.int .i64 (P2:Nat))∧w'=w) (hw2:IntKind.i64.wrap (1+(P2:Int))=(H2:Int))
  (hN:∀fc' O' w',Kp B h (fun _=>none) O' w'→(∀b,O' b→O b∨B≤b)→TlC2 ao n0 ca D N K M h1 h2 gx mv lv P1 H1 P2 H2 S fc'→Wk Tryz.prog Stop O' (G (Frame.enter Tryz.prog 9 #[.int .i64 (D.q:Nat),.slice (some ⟨gx,0,none⟩) N D.q,.int .i64 (K:Nat),mv,lv,.int .i64 (H1:Nat)] .normal) [fc']) w') :
  Wk Tryz.prog Stop O (G ((base 5).at a [.code (tlC Tryz.f5 11)]) []) w:=by
 have RL:∀ {O:Nat→Prop} {h z:Nat→Option Obj} {w w1:World},Kp B h z O w→Rly noB (LvZ z) O w w1→Kp B h z O w1:=fun hK r=>hK.rely r
 have HP1:Hid (∀w:World,Calls Tryz.prog 15 #[.int .i64 h1,.int .i64 8] w fun e w'=>e = .returned (.int .i64 (P1:Nat))∧w'=w):=hP1
 have HP2:Hid (∀w:World,Calls Tryz.prog 15 #[.int .i64 h2,.int .i64 8] w fun e w'=>e = .returned (.int .i64 (P2:Nat))∧w'=w):=hP2
 clear hP1 hP2
 obtain⟨f,rfl,hf⟩:=hs.fn
 have HS:Hid (∀i,S (f i)):=fun i=>hv _ (hf i)
 clear hf
 clear hv
 obtain⟨rest,hrest⟩:∃r,r=tlC Tryz.f5 13:=⟨_,rfl⟩
 rw[tl_split, ←hrest]
 have HRest:Hid (rest=tlC Tryz.f5 13):=hrest
 clear hrest
 simp only[hdC,tlC,Tryz.f5]
 refine hg_then (n:=100) hK ?_
 refine goes_hg (n:=30) (m:=70) ?_
 repeat(first|u_c stepG_region_end RL hK|u_c stepG_seq RL hK|u_reg RL hK|u_cnd true RL hK|u_cnd false RL hK|u_c stepG_skip RL hK|u_op RL hK|u_skip RL hK)
 refine Goes.stop (fun w₁ h₁=>?_)
 replace hK:=RL hK h₁
 clear h₁
 refine hg_call (n:=69) (f:=15) (vs := #[.int .i64 h1,.int .i64 8]) rfl rfl (by decide) rfl Tryz.func15 (by kernel_rfl) (by kernel_rfl) (by go_simp) ?_
 refine HG.stop (fun w₂ h₂=>?_)
 replace hK:=RL hK h₂
 clear h₂
 have hBz:B≤w₂.heap.size:=hK.size
 refine call_kpV (R:=fun v _=>v = .int .i64 (P1:Nat)) (h0:=fun _=>none) (vs:=[]) hK (see_none w₂) (fun b o e=>by cases e) (by kernel_rfl) (by show memB tpL _=true;kernel_rfl) (fun v hv=>?_) (fun T d=>(HP1.out _).mono fun e u he=>⟨_,he.1,rfl⟩) (fun v V T d hp=>hp) (fun v V1 W1 hv _ hK1=>?_)
 ·simp only[List.mem_toArray,List.mem_cons,List.not_mem_nil,or_false]at hv
  rcases hv with rfl|rfl<;>exact Or.inr ⟨_,_,rfl⟩
 subst hv
 replace hK:=hK1.weak (h':=h) fun b o e=>extB_old e
 clear hK1
 rw[Frame.finish_at]
 walk_nrm
 refine hg_then (n:=100) hK ?_
 refine goes_hg (n:=30) (m:=70) ?_
 repeat(first|u_c stepG_region_end RL hK|u_c stepG_seq RL hK|u_reg RL hK|u_cnd true RL hK|u_cnd false RL hK|u_c stepG_skip RL hK|u_op RL hK|u_skip RL hK)
 refine Goes.stop (fun w₁ h₁=>?_)
 replace hK:=RL hK h₁
 clear h₁
 refine hg_call (n:=69) (f:=9) (vs := #[.int .i64 (D.q:Nat),.slice (some ⟨gx,0,none⟩) N D.q,.int .i64 (K:Nat),mv,lv,.int .i64 (H1:Nat)]) rfl rfl (by decide) rfl Tryz.func9 (by kernel_rfl) (by kernel_rfl) (by go_simp) ?_
 refine HG.stop (fun w₂ h₂=>?_)
 replace hK:=RL hK h₂
 clear h₂
 refine hN _ _ w₂ hK ?_ ?_
 ·exact fun b hb=>hb.imp id fun q=>Nat.le_trans hBz q.1
 clear hK hN RL hBz
 intro b1 x1 l1 Stop B h O w hK hN
 have RL:∀ {O:Nat→Prop} {h z:Nat→Option Obj} {w w1:World},Kp B h z O w→Rly noB (LvZ z) O w w1→Kp B h z O w1:=fun hK r=>hK.rely r
 rw[Frame.finish_at]
 walk_nrm
 refine hg_then (n:=100) hK ?_
 refine goes_hg (n:=30) (m:=70) ?_
 repeat(first|u_c stepG_region_end RL hK|u_c stepG_seq RL hK|u_reg RL hK|u_cnd true RL hK|u_cnd false RL hK|u_c stepG_skip RL hK|u_op RL hK|u_skip RL hK)
 refine Goes.stop (fun w₁ h₁=>?_)
 replace hK:=RL hK h₁
 clear h₁
 refine hg_call (n:=69) (f:=15) (vs := #[.int .i64 h2,.int .i64 8]) rfl rfl (by decide) rfl Tryz.func15 (by kernel_rfl) (by kernel_rfl) (by go_simp) ?_
 refine HG.stop (fun w₂ h₂=>?_)
 replace hK:=RL hK h₂
 clear h₂
 have hBz:B≤w₂.heap.size:=hK.size
 refine call_kpV (R:=fun v _=>v = .int .i64 (P2:Nat)) (h0:=fun _=>none) (vs:=[]) hK (see_none w₂) (fun b o e=>by cases e) (by kernel_rfl) (by show memB tpL _=true;kernel_rfl) (fun v hv=>?_) (fun T d=>(HP2.out _).mono fun e u he=>⟨_,he.1,rfl⟩) (fun v V T d hp=>hp) (fun v V1 W1 hv _ hK1=>?_)
 ·simp only[List.mem_toArray,List.mem_cons,List.not_mem_nil,or_false]at hv
  rcases hv with rfl|rfl<;>exact Or.inr ⟨_,_,rfl⟩
 subst hv
 replace hK:=hK1.weak (h':=h) fun b o e=>extB_old e
 clear hK1
 rw[Frame.finish_at]
 walk_nrm
 refine hg_then (n:=100) hK ?_
 refine goes_hg (n:=30) (m:=70) ?_
 repeat(first|u_c stepG_region_end RL hK|u_c stepG_seq RL hK|u_reg RL hK|u_cnd true RL hK|u_cnd false RL hK|u_c stepG_skip RL hK|u_op RL hK|u_skip RL hK)
 refine Goes.stop (fun w₁ h₁=>?_)
 replace hK:=RL hK h₁
 clear h₁
 refine hg_call (n:=69) (f:=9) (vs := #[.int .i64 (D.q:Nat),.slice (some ⟨gx,0,none⟩) N D.q,.int .i64 (K:Nat),mv,lv,.int .i64 (H2:Nat)]) rfl rfl (by decide) rfl Tryz.func9 (by kernel_rfl) (by kernel_rfl) (by go_simp) ?_
 refine HG.stop (fun w₂ h₂=>?_)
 replace hK:=RL hK h₂
 clear h₂
 refine hN _ _ w₂ hK ?_ ?_
 ·exact fun b hb=>hb.imp id fun q=>Nat.le_trans hBz q.1
 clear hK hN RL hBz
 intro b2 x2 l2 Stop B h O w hK hN
 rw[←HRest.out]at hN
 have RL:∀ {O:Nat→Prop} {h z:Nat→Option Obj} {w w1:World},Kp B h z O w→Rly noB (LvZ z) O w w1→Kp B h z O w1:=fun hK r=>hK.rely r
 rw[Frame.finish_at]
 walk_nrm
 refine hg_then (n:=100) hK ?_
 refine goes_hg (n:=60) (m:=40) ?_
 repeat(first|u_c stepG_region_end RL hK|u_c stepG_seq RL hK|u_reg RL hK|u_cnd true RL hK|u_cnd false RL hK|u_c stepG_skip RL hK|u_op RL hK|u_skip RL hK)
 refine Goes.stop (fun w₁ h₁=>?_)
 replace hK:=RL hK h₁
 clear h₁
 refine HG.stop (fun w₂ h₂=>?_)
 replace hK:=RL hK h₂
 clear h₂
 refine hN w₂ _ hK ⟨f,rfl,HS.out⟩
end
end
section
open Go.RowKit Go.Sort
open Go.Conc
def AllV(S:Value→Prop):List Value→Prop
 |[]=>True
 |x::l=>S x∧AllV S l
theorem allV_mem {S:Value→Prop}:∀ {l:List Value},AllV S l→∀v,v∈l→S v
 |[],_,v,hv=>by simp at hv
 |x::l,h,v,hv=>by
  rcases List.mem_cons.1 hv with rfl|hv
  ·exact h.1
  ·exact allV_mem h.2 v hv
section
variable {W W1 W3:World}{D:FD}{N K M B gx:Nat}{c:Nat→Nat}{vs:Nat→Value}{Z:Nat→Nat→Int}{l:List (Nat×Nat×Nat)}{mv lv:Value}{n:Nat}
def GotQ(M bg:Nat)(tk:Nat→Option Value)(b:Nat):Prop:=b=bg∨∃i v,i<M∧tk i=some v∧MvF v b
structure GotM(lo M K bg:Nat)(av:Nat→Nat→Nat)(er:Nat→Nat)(tk:Nat→Option Value)(w:World):Prop where
 got:w.heap[bg]?=some (.cells (gotA M tk) 39)
 ge:lo≤bg
 all:∀i,i<M→∃g gc cs,tk i=some (.agg #[.slice (some ⟨g,0,none⟩) K gc,.int .i64 (er i:Nat),.bool false])∧lo≤g∧w.heap[g]?=some (.cells cs 3)∧(∀x,x∈cs→NoB x)∧∀j,j<K→cs[j]?=some (.int .i64 (av i j:Nat))
theorem gotC_at {tk:Nat→Option Value}{i:Nat}{x y z:Value}(e:tk i=some (.agg #[x,y,z])):gotC tk (i*3)=x∧gotC tk (i*3+1)=y∧gotC tk (i*3+2)=z:=by
 have d0:i*3 / 3=i:=by omega
 have d1:(i*3+1) / 3=i:=by omega
 have d2:(i*3+2) / 3=i:=by omega
 have m0:i*3 % 3=0:=by omega
 have m1:(i*3+1) % 3=1:=by omega
 have m2:(i*3+2) % 3=2:=by omega
 refine⟨?_,?_,?_⟩
 ·unfold gotC;rw[d0,m0,e];rfl
 ·unfold gotC;rw[d1,m1,e];rfl
 ·unfold gotC;rw[d2,m2,e];rfl
theorem GotM.cells {lo M K bg:Nat}{av:Nat→Nat→Nat}{er:Nat→Nat}{tk:Nat→Option Value}{w w':World}(h:GotM lo M K bg av er tk w)(hc:∀b cs t,GotQ M bg tk b→w.heap[b]?=some (.cells cs t)→w'.heap[b]?=some (.cells cs t)):GotM lo M K bg av er tk w':=
 ⟨hc _ _ _ (Or.inl rfl) h.got,h.ge,fun i hi=>by
  obtain⟨g,gc,cs,e1,e2,e3,e4,e5⟩:=h.all i hi
  exact⟨g,gc,cs,e1,e2,hc _ _ _ (Or.inr ⟨i,_,hi,e1,_,_,_,_,_,rfl,rfl⟩) e3,e4,e5⟩⟩
theorem GotM.gta {lo M K bg:Nat}{av:Nat→Nat→Nat}{er:Nat→Nat}{tk:Nat→Option Value}{w:World}(h:GotM lo M K bg av er tk w):∃go gc,GtA bg 0 M K go gc av er w:=by
 have key:∀i, ∃p:Nat×Nat,i<M→w.cell? ⟨bg,0+i*3,none⟩=some (.slice (some ⟨p.1,0,none⟩) K p.2)∧w.cell? ⟨bg,0+i*3+1,none⟩=some (.int .i64 (er i:Nat))∧w.cell? ⟨bg,0+i*3+2,none⟩=some (.bool false)∧Sl (some ⟨p.1,0,none⟩) K (av i) w:=fun i=>by
  by_cases hi:i<M
  ·obtain⟨g,gc,cs,e1,e2,e3,e4,e5⟩:=h.all i hi
   obtain⟨a0,a1,a2⟩:=gotC_at e1
   refine⟨(g,gc),fun _=>⟨?_,?_,?_,fun j hj=>⟨g,0,rfl,?_⟩⟩⟩
   ·rw[Nat.zero_add];exact cell_of h.got ((gotA_get (by omega)).trans (congrArg some a0))
   ·rw[Nat.zero_add];exact cell_of h.got ((gotA_get (by omega)).trans (congrArg some a1))
   ·rw[Nat.zero_add];exact cell_of h.got ((gotA_get (by omega)).trans (congrArg some a2))
   ·rw[Nat.zero_add];exact cell_of e3 (e5 j hj)
  ·exact⟨(0,0),fun h=>absurd h hi⟩
 exact⟨fun i=>(Classical.choose (key i)).1,fun i=>(Classical.choose (key i)).2,fun i hi=>Classical.choose_spec (key i) hi⟩
theorem GotM.low {lo M K bg:Nat}{av:Nat→Nat→Nat}{er:Nat→Nat}{tk:Nat→Option Value}{w:World}(h:GotM lo M K bg av er tk w){b:Nat}(hb:GotQ M bg tk b):lo≤b:=by
 rcases hb with rfl|⟨i,v,hi,e,a,gn,gc',x,y,rfl,rfl⟩
 ·exact h.ge
 ·obtain⟨g,gc,cs,e1,e2,_⟩:=h.all i hi
  rw[e]at e1
  simp at e1
  obtain⟨⟨rfl,_⟩,_⟩:=e1
  exact e2
theorem GotM.oks {lo M K bg:Nat}{av:Nat→Nat→Nat}{er:Nat→Nat}{tk:Nat→Option Value}{w:World}(h:GotM lo M K bg av er tk w){S:Nat→Prop}{F:Fx}(hS:∀b,GotQ M bg tk b→S b)(hF:∀b,lo≤b→¬F.cl b){b:Nat}(hb:GotQ M bg tk b):∃o,w.heap[b]?=some o∧OOk S F o:=by
 rcases hb with rfl|⟨i,v,hi,e,a,gn,gc',x,y,rfl,rfl⟩
 ·refine⟨_,h.got,fun v hv=>?_⟩
  unfold gotA at hv
  obtain⟨k,rfl⟩:=Array.mem_ofFn.1 hv
  have hk:=k.2
  obtain⟨g,gc,cs,e1,e2,_⟩:=h.all (k.1 / 3) (by omega)
  obtain⟨a0,a1,a2⟩:=gotC_at e1
  have hm:k.1 % 3=0∨k.1 % 3=1∨k.1 % 3=2:=by omega
  rcases hm with c|c|c
  ·have:k.1=k.1 / 3*3:=by omega
   rw[this,a0]
   exact ok_sl ⟨hS g (Or.inr ⟨_,_,by omega,e1,_,_,_,_,_,rfl,rfl⟩),fun q=>absurd q (hF g e2)⟩
  ·have:k.1=k.1 / 3*3+1:=by omega
   rw[this,a1]
   exact ok_int _ _
  ·have:k.1=k.1 / 3*3+2:=by omega
   rw[this,a2]
   exact ok_bool _
 ·obtain⟨g,gc,cs,e1,e2,e3,e4,_⟩:=h.all i hi
  rw[e]at e1
  simp at e1
  obtain⟨⟨rfl,_⟩,_⟩:=e1
  exact⟨_,e3,fun v hv=>(e4 v hv).ok _ _⟩
theorem tl_msa(hT:TlM B gx D N K M n M M 0 c vs Z l mv lv W)(hK1:1≤K):∃mo mc,mv = .slice mo M mc∧MsA mo M K (fun i=>msO (vs i)) (fun i=>msC (vs i)) (fun i=>zc K (Z i)) W:=by
 have hrow:∀i,i<M→∃g cap,vs i = .slice (some ⟨g,0,none⟩) K cap∧Sl (some ⟨g,0,none⟩) K (zc K (Z i)) W∧g<W.heap.size:=fun i hi=>by
  have ho:=hT.m.row i hi
  have hlt:=ho.lt
  unfold OwnI at ho
  rw[zl_len]at ho
  obtain⟨g,cap,e,_,_,_,h5,h6⟩:=own_obL ho hK1
  refine⟨g,cap,e,fun j hj=>⟨g,0,rfl,?_⟩,(hlt g (by rw[e];rfl)).2⟩
  rw[Nat.zero_add]
  refine(h6 j (by omega)).trans ?_
  have hb:=hT.m.blw i hi j hj
  rw[List.getElem?_map,zl_get K (Z i) j hj]
  show some (Value.int .i64 (Z i j))=some (.int .i64 ((zc K (Z i) j:Nat):Int))
  unfold zc
  rw[if_pos hj,Int.toNat_of_nonneg hb.1]
 have ho:=hT.m.own
 have holt:=ho.lt
 unfold OwnV at ho
 rw[vl_len]at ho
 rcases Nat.eq_zero_or_pos M with h0|h0
 ·obtain⟨_,⟨e,_⟩|⟨g,cap,cur,e,_⟩⟩:=ho
  ·exact⟨none,0,by rw[e,h0],fun i hi=>by omega⟩
  ·exact⟨_,cap,e,fun i hi=>by omega⟩
 ·obtain⟨g,cap,e,_,_,_,h5,h6⟩:=own_obL ho h0
  refine⟨_,cap,e,fun i hi=>?_⟩
  obtain⟨gr,cr,e2,hs,hl⟩:=hrow i hi
  refine⟨⟨g,0,rfl,(holt g (by rw[e];rfl)).2,?_⟩,by show Sl (msO (vs i)) K (zc K (Z i)) _;rw[e2];exact hs,by show LtB (msO (vs i)) _;rw[e2];intro x hx;cases hx;exact hl⟩
  rw[Nat.zero_add]
  refine(h6 i (by omega)).trans ?_
  rw[vl_get M vs i hi]
  show some (vs i)=some (Value.slice (msO (vs i)) K (msC (vs i)))
  rw[e2]
  rfl
end
set_option maxRecDepth 100000 in
theorem tlE_vals {ao:Option Addr}{n0 ca:Nat}{D:FD}{N K M:Nat}{h1 h2:Int}{gx:Nat}{mv lv:Value}{P1 H1 P2 H2 b1 b2:Nat}{x1:Int}{S:Value→Prop}{a:Act}(h:TlE ao n0 ca D N K M h1 h2 gx mv lv P1 H1 P2 H2 b1 b2 x1 0 x1 0 S a)(q0:S (.slice ao n0 ca))(qi:∀z, S (.int .i64 z))(qf:S (.bool false))(qu:S undef)(qx:S (.slice (some ⟨gx, 0, none⟩) N D.q))(qm:S mv)(ql:S lv)(qb1:S (.slice (some ⟨b1, 0, none⟩) M M))(qb2:S (.slice (some ⟨b2, 0, none⟩) M M))
  (qt1:S (.tuple #[.slice (some ⟨b1,0,none⟩) M M,.int .i64 x1,.int .i64 0,.int .i64 0])) (qt2:S (.tuple #[.slice (some ⟨b2,0,none⟩) M M,.int .i64 x1,.int .i64 0,.int .i64 0])):∀v,v∈a.tmps→S v:=by
 obtain⟨f,rfl,hf⟩:=h
 have hl:AllV S [.slice ao n0 ca,.int .i64 (D.q:Nat),.int .i64 (N:Nat),.int .i64 (K:Nat),.int .i64 (M:Nat),.int .i64 h1,.int .i64 h2,undef,undef,undef,undef,undef,undef,undef,.bool false,.slice (some ⟨gx,0,none⟩) N D.q,mv,lv,.int .i64 (M:Nat),f 0,.slice (some ⟨b1,0,none⟩) M M,.int .i64 x1,.int .i64 0,.int .i64 0,.slice (some ⟨b2,0,none⟩) M M,.int .i64 x1,.int .i64 0,.int .i64 0,undef,f 1,f 2,f 3,f 4,f 5,f 6,f 7,f 8,f 9,f 10,f 11,f 12,f 13,f 14,f 15,f 16,f 17,f 18,f 19,f 20,f 21,f 22,f 23,f 24,f 25,f 26,f 27,f 28,f 29,f 30,f 31,f 32,f 33,f 34,f 35,f 36,f 37,f 38,f 39,f 40,f 41,f 42,f 43,f 44,f 45,f 46,f 47,f 48,f 49,f 50,f 51,f 52,f 53,f 54,f 55,f 56,f 57,f 58,f 59,f 60,f 61,f 62,f 63,f 64,f 65,f 66,f 67,.tuple #[.slice (some ⟨b1,0,none⟩) M M,.int .i64 x1,.int .i64 0,.int .i64 0],.int .i64 (D.q:Nat),.slice (some ⟨gx,0,none⟩) N D.q,.int .i64 (K:Nat),mv,lv,.int .i64 h1,.int .i64 (P1:Nat),.int .i64 (H1:Nat),.tuple #[.slice (some ⟨b1,0,none⟩) M M,.int .i64 x1,.int .i64 0,.int .i64 0],.slice (some ⟨b1,0,none⟩) M M,.int .i64 x1,.int .i64 0,.int .i64 0,.tuple #[.slice (some ⟨b2,0,none⟩) M M,.int .i64 x1,.int .i64 0,.int .i64 0],.int .i64 (D.q:Nat),.slice (some ⟨gx,0,none⟩) N D.q,.int .i64 (K:Nat),mv,lv,.int .i64 h2,.int .i64 (P2:Nat),.int .i64 (H2:Nat),.tuple #[.slice (some ⟨b2,0,none⟩) M M,.int .i64 x1,.int .i64 0,.int .i64 0],.slice (some ⟨b2,0,none⟩) M M,.int .i64 x1,.int .i64 0,.int .i64 0,undef,undef,undef,undef,undef,undef,undef,undef,undef,undef,undef,undef,undef,undef,undef,undef,undef,undef,undef,undef,undef,undef,undef,undef,undef,undef,undef,undef,undef,undef,undef,undef,undef,undef,undef,undef,undef,undef,undef,undef,undef,undef,undef,undef,undef,undef,undef,undef,undef,undef,undef,undef,undef,undef,undef,undef,undef,undef,undef,undef,undef,undef,undef,undef,undef,undef,undef,undef,undef,undef,undef,undef,undef,undef,undef,undef,undef,undef,undef,undef,undef,undef,undef,undef,undef,undef,undef]:=by
  simp only[AllV,and_true]
  exact⟨q0,(qi _),(qi _),(qi _),(qi _),(qi _),(qi _),qu,qu,qu,qu,qu,qu,qu,qf,qx,qm,ql,(qi _),(hf _),qb1,(qi _),(qi _),(qi _),qb2,(qi _),(qi _),(qi _),qu,(hf _),(hf _),(hf _),(hf _),(hf _),(hf _),(hf _),(hf _),(hf _),(hf _),(hf _),(hf _),(hf _),(hf _),(hf _),(hf _),(hf _),(hf _),(hf _),(hf _),(hf _),(hf _),(hf _),(hf _),(hf _),(hf _),(hf _),(hf _),(hf _),(hf _),(hf _),(hf _),(hf _),(hf _),(hf _),(hf _),(hf _),(hf _),(hf _),(hf _),(hf _),(hf _),(hf _),(hf _),(hf _),(hf _),(hf _),(hf _),(hf _),(hf _),(hf _),(hf _),(hf _),(hf _),(hf _),(hf _),(hf _),(hf _),(hf _),(hf _),(hf _),(hf _),(hf _),(hf _),(hf _),(hf _),(hf _),qt1,(qi _),qx,(qi _),qm,ql,(qi _),(qi _),(qi _),qt1,qb1,(qi _),(qi _),(qi _),qt2,(qi _),qx,(qi _),qm,ql,(qi _),(qi _),(qi _),qt2,qb2,(qi _),(qi _),(qi _),qu,qu,qu,qu,qu,qu,qu,qu,qu,qu,qu,qu,qu,qu,qu,qu,qu,qu,qu,qu,qu,qu,qu,qu,qu,qu,qu,qu,qu,qu,qu,qu,qu,qu,qu,qu,qu,qu,qu,qu,qu,qu,qu,qu,qu,qu,qu,qu,qu,qu,qu,qu,qu,qu,qu,qu,qu,qu,qu,qu,qu,qu,qu,qu,qu,qu,qu,qu,qu,qu,qu,qu,qu,qu,qu,qu,qu,qu,qu,qu,qu,qu,qu,qu,qu,qu,qu⟩
 exact fun v hv=>allV_mem hl v (by simpa using hv)
theorem TlE.mono {ao:Option Addr}{n0 ca:Nat}{D:FD}{N K M:Nat}{h1 h2:Int}{gx:Nat}{mv lv:Value}{P1 H1 P2 H2 b1 b2:Nat}{x1:Int}{S S':Value→Prop}{a:Act}(hS:∀v,S v→S' v)(h:TlE ao n0 ca D N K M h1 h2 gx mv lv P1 H1 P2 H2 b1 b2 x1 0 x1 0 S a):TlE ao n0 ca D N K M h1 h2 gx mv lv P1 H1 P2 H2 b1 b2 x1 0 x1 0 S' a:=by
 obtain⟨f,rfl,hf⟩:=h
 exact⟨f,rfl,fun i=>hS _ (hf i)⟩
theorem TlE.defers {ao:Option Addr}{n0 ca:Nat}{D:FD}{N K M:Nat}{h1 h2:Int}{gx:Nat}{mv lv:Value}{P1 H1 P2 H2 b1 b2:Nat}{x1:Int}{S:Value→Prop}{a:Act}(h:TlE ao n0 ca D N K M h1 h2 gx mv lv P1 H1 P2 H2 b1 b2 x1 0 x1 0 S a):a.defers=[]:=by
 obtain⟨f,rfl,_⟩:=h
 rfl
theorem tlE_post {ao:Option Addr}{n0 ca:Nat}{D:FD}{N K M:Nat}{h1 h2:Int}{gx:Nat}{lv:Value}{P1 H1 P2 H2 b1 b2:Nat}{x1:Int}{S:Value→Prop}{a:Act}{mo:Option Addr}{mc:Nat}{go gc go2 gc2:Nat→Nat}{av:Nat→Nat→Nat}{er er2:Nat→Nat}{vs:Nat→Value}{w:World}(h:TlE ao n0 ca D N K M h1 h2 gx (.slice mo M mc) lv P1 H1 P2 H2 b1 b2 x1 0 x1 0 S a)(hM:M≤8)(hK1:1≤K)(hK:K≤9)(he:∀i, i<M→er i=er2 i∧er i≤1000)
  (hA:GtA b1 0 M K go gc av er w) (hB:GtA b2 0 M K go2 gc2 av er2 w) (hm:MsA mo M K (fun i=>msO (vs i)) (fun i=>msC (vs i)) av w) :
  (tlC Tryz.f5 13).wp Tryz.prog (fun e a _=>(e = .normal∨e = .ret)∧a.defers=[]∧a.tmps[14]?=some (.bool true)) a w:=by
 obtain⟨f,rfl,_⟩:=h
 exact Code.wp_mono (fun e a w h=>⟨h.1,h.2.1,h.2.2.1⟩) (tl_post (w:=w) (ao:=fun i=>msO (vs i)) (cm:=fun i=>msC (vs i)) (av:=av) (go:=go) (gc:=gc) (go2:=go2) (gc2:=gc2) (er:=er) (er2:=er2) (oa:=0) (ob:=0) (.slice ao n0 ca) (.int .i64 (D.q:Nat)) (.int .i64 (N:Nat)) (.int .i64 (K:Nat)) (.int .i64 h1) (.int .i64 h2) (.slice (some ⟨gx,0,none⟩) N D.q) lv (.int .i64 (M:Nat)) (f 0) (f 1) (f 2) (f 3) (f 4) (f 5) (f 6) (f 7) (f 8) (f 9) (f 10) (f 11) (f 12) (f 13) (f 14) (f 15) (f 16) (f 17) (f 18) (f 19) (f 20) (f 21) (f 22) (f 23) (f 24) (f 25) (f 26) (f 27) (f 28) (f 29) (f 30) (f 31) (f 32) (f 33) (f 34) (f 35) (f 36) (f 37) (f 38) (f 39) (f 40) (f 41) (f 42) (f 43) (f 44) (f 45) (f 46) (f 47) (f 48) (f 49) (f 50) (f 51) (f 52) (f 53) (f 54) (f 55) (f 56) (f 57) (f 58) (f 59) (f 60) (f 61) (f 62) (f 63) (f 64) (f 65) (f 66) (f 67) (.tuple #[.slice (some ⟨b1,0,none⟩) M M,.int .i64 x1,.int .i64 0,.int .i64 0]) (.int .i64 (D.q:Nat)) (.slice (some ⟨gx,0,none⟩) N D.q) (.int .i64 (K:Nat)) (.slice mo M mc) lv (.int .i64 h1) (.int .i64 (P1:Nat)) (.int .i64 (H1:Nat)) (.tuple #[.slice (some ⟨b1,0,none⟩) M M,.int .i64 x1,.int .i64 0,.int .i64 0]) (.slice (some ⟨b1,0,none⟩) M M) (.int .i64 x1) (.int .i64 0) (.int .i64 0) (.tuple #[.slice (some ⟨b2,0,none⟩) M M,.int .i64 x1,.int .i64 0,.int .i64 0]) (.int .i64 (D.q:Nat)) (.slice (some ⟨gx,0,none⟩) N D.q) (.int .i64 (K:Nat)) (.slice mo M mc) lv (.int .i64 h2) (.int .i64 (P2:Nat)) (.int .i64 (H2:Nat)) (.tuple #[.slice (some ⟨b2,0,none⟩) M M,.int .i64 x1,.int .i64 0,.int .i64 0]) (.slice (some ⟨b2,0,none⟩) M M) (.int .i64 x1) (.int .i64 0) (.int .i64 0) hM hK1 hK ⟨Nat.le_refl M,by omega⟩ ⟨Nat.le_refl M,by omega⟩ he hA hB hm)
def TlZ(W:World)(_:Nat→Prop)(g:Goroutine)(w:World):Prop:=(∃a todo,a.tmps[14]?=some (.bool true)∧a.defers=[]∧g=G { (base 5).at a todo with mode:= .returning } [])∧∀b,b<W.heap.size→w.heap[b]?=W.heap[b]?
set_option maxRecDepth 100000 in
set_option maxHeartbeats 4000000 in
theorem tl_last {ao:Option Addr}{n0 ca:Nat}{z:Nat→Int}{W W1 W3:World}{D:FD}{N K M B gx:Nat}{h1 h2:Int}{c:Nat→Nat}{vs:Nat→Value}{Z:Nat→Nat→Int}{l:List (Nat×Nat×Nat)}{mv lv:Value}{a a3:Act}{P1 H1 P2 H2 b1 b2:Nat}{x1:Int}{er1 er2:Nat→Nat}{tk1 tk2:Nat→Option Value}{O:Nat→Prop}
  (ha:Arg ao n0 ca z W) (hr:RawB ao W) (hK1:1≤K) (hK9:K≤9) (hM:M≤8) (hS:TlS ao n0 ca W D N K M h1 h2 B gx c vs Z l mv lv a W1)
  (hE:TlE ao n0 ca D N K M h1 h2 gx mv lv P1 H1 P2 H2 b1 b2 x1 0 x1 0 (VOk (RawS ao n0 W.heap.size W1.heap.size) (fxT (rawL ao n0))) a3)
  (qx:VOk (RawS ao n0 W.heap.size W1.heap.size) (fxT (rawL ao n0)) (.slice (some ⟨gx,0,none⟩) N D.q)) (qm:VOk (RawS ao n0 W.heap.size W1.heap.size) (fxT (rawL ao n0)) mv) (ql:VOk (RawS ao n0 W.heap.size W1.heap.size) (fxT (rawL ao n0)) lv)
  (hold:∀b,b<W1.heap.size→W3.heap[b]?=W1.heap[b]?) (g1:GotM W1.heap.size M K b1 (fun i=>zc K (Z i)) er1 tk1 W3) (g2:GotM W1.heap.size M K b2 (fun i=>zc K (Z i)) er2 tk2 W3) (he:∀i,i<M→er1 i=er2 i∧er1 i≤1000)
  (hO:∀b,(b<W1.heap.size∨GotQ M b1 tk1 b∨GotQ M b2 tk2 b)→O b) :
  Wk Tryz.prog (TlZ W) O (G ((base 5).at a3 [.code (tlC Tryz.f5 13)]) []) W3:=by
 have hs1:=hS.size
 have hold0:∀b,b<W.heap.size→W3.heap[b]?=W.heap[b]?:=fun b hb=>(hold b (by omega)).trans (hS.old b hb)
 have hraw:∀b,(wnK (rawL ao n0) b).isSome=true→b<W.heap.size:=fun b hb=>by
  obtain⟨⟨lo,hi⟩,e⟩:=Option.isSome_iff_exists.1 hb
  obtain⟨x,rfl,rfl,_⟩:=rawL_mem e
  exact ha.lt x rfl
 have hnone:∀b,W.heap.size≤b→wnK (rawL ao n0) b=none:=fun b hb=>by
  cases e:wnK (rawL ao n0) b with
  | none=>rfl
  | some p=>have:=hraw b (by rw[e];rfl);omega
 have hW3:W.heap.size≤W3.heap.size:=by
  rcases Nat.lt_or_ge W3.heap.size W.heap.size with h|h
  ·have:=hold0 W3.heap.size h
   rw[Array.getElem?_eq_none (Nat.le_refl _),Array.getElem?_eq_getElem h]at this
   cases this
  ·exact h
 have ha3:Arg ao n0 ca z W3:=arg_cells ha (fun x e y hy=>by
  simp only[World.cell?]
  rw[hold0 y.block (by rw[hy];exact ha.lt x e)]) (ha.lt.mono hW3)
 have hr3:RawB ao W3:=fun x e=>by
  obtain⟨c,t,y,h⟩:=hr x e
  exact⟨c,t,y,(hold0 _ (ha.lt x e)).trans h⟩
 obtain⟨Q,hQd⟩:∃Q:Nat→Prop,Q=fun b=>(W.heap.size≤b∧b<W1.heap.size)∨GotQ M b1 tk1 b∨GotQ M b2 tk2 b:=⟨_,rfl⟩
 have up:∀b,RawS ao n0 W.heap.size W1.heap.size b→(wnK (rawL ao n0) b).isSome=true∨Q b:=fun b hb=>by
  rcases hb with(hb|hb)|hb
  ·exact Or.inl hb
  ·exact hb.elim
  ·exact Or.inr (by rw[hQd];exact Or.inl hb)
 have ncl:∀b,W1.heap.size≤b→¬(fxT (rawL ao n0)).cl b:=fun b hb q=>by
  have:=hraw b q
  omega
 obtain⟨hvw,hblk,hcf⟩:=raw_clp (Q:=Q) ha3 hr3 (fun b hb=>by
  rw[hQd]at hb
  rcases hb with⟨c1,c2⟩|c|c
  ·obtain⟨o,ho,hk⟩:=hS.blk b c1 c2
   exact⟨hnone b c1,o,(hold b c2).trans ho,hk.mono up⟩
  ·have:=g1.low c
   exact⟨hnone b (by omega),g1.oks (fun x hx=>Or.inr (by rw[hQd];exact Or.inr (Or.inl hx))) ncl c⟩
  ·have:=g2.low c
   exact⟨hnone b (by omega),g2.oks (fun x hx=>Or.inr (by rw[hQd];exact Or.inr (Or.inr hx))) ncl c⟩)
 have hsz:(clpW wtN (wnK (rawL ao n0)) W3).heap.size=W3.heap.size:=clpW_size
 have upS:∀b,((wnK (rawL ao n0) b).isSome=true∨Q b)→Sto (fun b=>(wnK (rawL ao n0) b).isSome=true∨Q b) W3.heap.size (clpW wtN (wnK (rawL ao n0)) W3).heap.size b:=fun b hb=>Or.inl hb
 have up2:∀b,RawS ao n0 W.heap.size W1.heap.size b→Sto (fun b=>(wnK (rawL ao n0) b).isSome=true∨Q b) W3.heap.size (clpW wtN (wnK (rawL ao n0)) W3).heap.size b:=fun b hb=>upS b (up b hb)
 have hvals:∀v,v∈a3.tmps→VOk (Sto (fun b=>(wnK (rawL ao n0) b).isSome=true∨Q b) W3.heap.size (clpW wtN (wnK (rawL ao n0)) W3).heap.size) (fxT (rawL ao n0)) v:=by
  have q0:VOk (Sto (fun b=>(wnK (rawL ao n0) b).isSome=true∨Q b) W3.heap.size (clpW wtN (wnK (rawL ao n0)) W3).heap.size) (fxT (rawL ao n0)) (.slice ao n0 ca):=raw_ok fun b hb=>upS b (Or.inl hb)
  have qb1:VOk (Sto (fun b=>(wnK (rawL ao n0) b).isSome=true∨Q b) W3.heap.size (clpW wtN (wnK (rawL ao n0)) W3).heap.size) (fxT (rawL ao n0)) (.slice (some ⟨b1,0,none⟩) M M):=ok_sl ⟨upS _ (Or.inr (by rw[hQd];exact Or.inr (Or.inl (Or.inl rfl)))),fun q=>absurd q (ncl _ g1.ge)⟩
  have qb2:VOk (Sto (fun b=>(wnK (rawL ao n0) b).isSome=true∨Q b) W3.heap.size (clpW wtN (wnK (rawL ao n0)) W3).heap.size) (fxT (rawL ao n0)) (.slice (some ⟨b2,0,none⟩) M M):=ok_sl ⟨upS _ (Or.inr (by rw[hQd];exact Or.inr (Or.inr (Or.inl rfl)))),fun q=>absurd q (ncl _ g2.ge)⟩
  have qt1:VOk (Sto (fun b=>(wnK (rawL ao n0) b).isSome=true∨Q b) W3.heap.size (clpW wtN (wnK (rawL ao n0)) W3).heap.size) (fxT (rawL ao n0)) (.tuple #[.slice (some ⟨b1,0,none⟩) M M,.int .i64 x1,.int .i64 0,.int .i64 0]):=by
   rw[VOk]
   intro v hv
   simp only[List.mem_toArray,List.mem_cons,List.not_mem_nil,or_false]at hv
   rcases hv with rfl|rfl|rfl|rfl
   ·exact qb1
   ·exact ok_int _ _
   ·exact ok_int _ _
   ·exact ok_int _ _
  have qt2:VOk (Sto (fun b=>(wnK (rawL ao n0) b).isSome=true∨Q b) W3.heap.size (clpW wtN (wnK (rawL ao n0)) W3).heap.size) (fxT (rawL ao n0)) (.tuple #[.slice (some ⟨b2,0,none⟩) M M,.int .i64 x1,.int .i64 0,.int .i64 0]):=by
   rw[VOk]
   intro v hv
   simp only[List.mem_toArray,List.mem_cons,List.not_mem_nil,or_false]at hv
   rcases hv with rfl|rfl|rfl|rfl
   ·exact qb2
   ·exact ok_int _ _
   ·exact ok_int _ _
   ·exact ok_int _ _
  replace qx:=qx.mono up2
  replace qm:=qm.mono up2
  replace ql:=ql.mono up2
  exact tlE_vals (hE.mono fun v hv=>hv.mono up2) q0 (fun z=>ok_int _ _) (ok_bool _) undef_ok qx qm ql qb1 qb2 qt1 qt2
 have hnew:∀x cs t,W.heap.size≤x→W3.heap[x]?=some (.cells cs t)→(clpW wtN (wnK (rawL ao n0)) W3).heap[x]?=some (.cells cs t):=fun x cs t hx e=>(clpW_other (hnone x hx)).trans e
 have hTV:TlM B gx D N K M ((N-K) / 2) M M 0 c vs Z l mv lv (clpW wtN (wnK (rawL ao n0)) W3):=hS.made.cong (B0:=W.heap.size) (fun x cs t hx e=>hnew x cs t hx ((hold x (lt_of_some e)).trans e)) hS.ge
 obtain⟨mo,mc,rfl,hMs⟩:=tl_msa hTV hK1
 obtain⟨go1,gc1,hG1⟩:=(g1.cells (w':=clpW wtN (wnK (rawL ao n0)) W3) fun x cs t hx e=>hnew x cs t (by have:=g1.low hx;omega) e).gta
 obtain⟨go2,gc2,hG2⟩:=(g2.cells (w':=clpW wtN (wnK (rawL ao n0)) W3) fun x cs t hx e=>hnew x cs t (by have:=g2.low hx;omega) e).gta
 refine fin_wkV (Q:=fun b=>(wnK (rawL ao n0) b).isSome=true∨Q b) (F:=fxT (rawL ao n0)) (V:=clpW wtN (wnK (rawL ao n0)) W3) (W0:=W3) (R:=fun a _=>a.defers=[]∧a.tmps[14]?=some (.bool true)) (tl_prg _ _ _) (fun b hb=>hO b ?_) hvw ⟨⟨tl_fnE,hvals,fun i hi=>?_,hE.defers,rfl,rfl,Or.inl rfl⟩,fun c hc=>by simp at hc,hblk,by rw[hsz];exact Nat.le_refl _,hcf⟩ (fun T d=>?_) (fun a V T d hR=>hR) (fun a' V1 W4 todo hR hV=>?_)
 ·rcases hb with hb|hb
  ·have:=hraw b hb
   exact Or.inl (by omega)
  ·rw[hQd]at hb
   exact hb.imp (fun c=>c.2) id
 ·have hi:i = .code (tlC Tryz.f5 13):=by simpa [Frame.at]using hi
  subst hi
  exact COk.lift2 tl_cod2
 ·exact tlE_post (w:=rtp (clpW wtN (wnK (rawL ao n0)) W3) T d) (er2:=er2) (vs:=vs) hE hM hK1 hK9 he hG1 hG2 hMs
 ·refine Wk.stop fun d=>⟨⟨a',todo,hR.2,hR.1,rfl⟩,fun b hb=>?_⟩
  refine Eq.trans ?_ (hold0 b hb)
  show W4.heap[b]?=_
  by_cases hq:(wnK (rawL ao n0) b).isSome=true∨Q b
  ·rcases hq with hq|hq
   ·exact(hV.frz b hq).2.2.2
   ·exfalso
    rw[hQd]at hq
    rcases hq with hq|hq|hq
    ·omega
    ·have:=g1.low hq;omega
    ·have:=g2.low hq;omega
  ·exact hV.old b (by omega) hq
end
section
open Go.RowKit Go.Sort
open Go.Conc
theorem tl_done {W:World}{O1 O:Nat→Prop}{g:Goroutine}{w:World}(h:TlZ W O g w)(hs:W.heap.size≤w.heap.size)(hf:w.tape=W.tape∧w.os=W.os∧w.output=W.output)(d:Nat):AtEndX Tryz.prog O1 (fun v w'=>v = .bool true∧Below W.heap.size W w') O1 g (w.at d):=by
 obtain⟨⟨a,todo,h14,hd,rfl⟩,hb⟩:=h
 refine⟨rfl,.bool true, #[],?_,fun e he=>by simp at he,rfl,⟨hf.2.1,hf.1,hf.2.2,hs,hb⟩⟩
 have hr:∀w1:World,(results Tryz.f5 a.tmps).runT Tryz.prog w1 #[]=(.ok (.bool true) w1, #[]):=fun w1=>by
  simp only[Tryz.f5,results]
  simp[go_sem,h14,Array.getD_eq_getD_getElem?]
 simp only[G,stepG,unwind,Frame.at,hd,base,Tryz.func5,hr]
 simp[GStep.after,doReturn,seen]
end
end Go.Proofs.YtedifobeggabnaaGreat
