/- Texts of ours, one behind the other: U5 U6 U7 U8 U9 U10 U11 U12 U13 U14 U15 U16 U17 V1 V2 V3 W5 V4 V5. -/
import Derived.Test.YtedifobeggabnaaGreatCbN1
import Derived.Lib.SliceRun
import Derived.Test.YtedifobeggabnaaGreatCbR5
import Derived.Lib.QuietBelow
namespace Go.Proofs.YtedifobeggabnaaGreat
section
open Go.RowKit
theorem own_empty {base g:Nat}{w:World}(h:w.heap[g]?=some (.cells #[] 3 (0,0)))(hb:base≤g):OwnI base (.slice (some ⟨g,0,none⟩) 0 0) [] w:=
 ⟨rfl,Or.inr ⟨g,0, #[],rfl,hb,h,Nat.le_refl _,by unfold maxLen;omega,rfl,rfl⟩⟩
set_option maxHeartbeats 1000000 in
set_option maxRecDepth 100000 in
theorem clone_any {ao:Option Addr}{n cap:Nat}{c:Nat→Nat}{w:World}(h:Sl ao n c w)(hn:n≤1000000)(hnil:ao=none→cap=0)(hl:LtB ao w.heap.size) :
  Calls Tryz.prog 132 #[.slice ao n cap] w fun e w'=>∃v,e = .returned v∧OwnP w.heap.size v n c w'∧Below w.heap.size w w':=by
 have HS:Hid (Sl ao n c w∧(ao=none→cap=0)∧LtB ao w.heap.size):=⟨h,hnil,hl⟩
 clear h hnil hl
 cases ao with
 | none=>
  have h0:n=0:=by
   rcases Nat.eq_zero_or_pos n with e|e
   ·exact e
   ·obtain⟨b,off,h1,_⟩:=HS.out.1 0 e
    cases h1
  subst h0
  have hrn:∀w1:World,Sem.run Tryz.prog (binOp BinOp.eql 22 (Value.slice none 0 cap) (Value.slice none 0 0)) w1 = .ok (.bool true) w1:=fun w1=>Lib.run_eql_slice_nil w1 _ 3 none 0 cap 0 0 Tryz.underlying22
  go_enter Tryz.func132,Tryz.ntmps132
  go_wp2
  go_ret
  exact⟨_,rfl,⟨none,0,rfl,Nat.le_refl _,by omega,fun x hx=>(by cases hx),fun x hx=>(by cases hx),fun _=>rfl,fun h0=>absurd h0 (by omega)⟩,Below.refl _ _⟩
 | some ad=>
  have hrn:∀w1:World,Sem.run Tryz.prog (binOp BinOp.eql 22 (Value.slice (some ad) n cap) (Value.slice none 0 0)) w1 = .ok (.bool false) w1:=fun w1=>Lib.run_eql_slice_nil w1 _ 3 (some ad) n cap 0 0 Tryz.underlying22
  go_enter Tryz.func132,Tryz.ntmps132
  go_wp2_with (at_builtin;refine append_list rfl _ _ rfl w.heap.size _ rfl (own_empty (two_new _) (Nat.le_refl _)) (some ad) n cap c rfl (HS.out.1.below ((Below.refl _ _).alloc (Nat.le_refl _) _) HS.out.2.2) HS.out.2.1 hn (by simp) ?_;intro v' w' hown hgrow)
  go_ret
  exact⟨_,rfl,hown,((Below.refl _ _).alloc (Nat.le_refl _) _).grown hgrow (by simp) (by intro k hk;have hk:some w.heap.size=some k:=hk;cases hk;exact Nat.le_refl _)⟩
set_option maxHeartbeats 4000000 in
set_option maxRecDepth 100000 in
theorem psum_any {F T:Nat}{D:FD}(hD:D∈fieldsL){g:Nat→Value}{w:World}(h:FAt F T D g w){ao bo:Option Addr}{n m ca cb:Nat}{a b:Nat→Nat}(hn:n≤1000)(hm:m≤1000)(ha:El D a)(hb:El D b)(hbn:Bd n a)(hbm:Bd m b)(hA:Sl ao n a w)(hB:Sl bo m b w)(hla:LtB ao w.heap.size)(hlb:LtB bo w.heap.size) :
  Calls Tryz.prog 131 #[.pointer (some ⟨F,0,none⟩),.slice ao n ca,.slice bo m cb] w fun e w'=>
   ∃v,e = .returned v∧OwnP w.heap.size v (dgn (padd D a b) (max n m)) (padd D a b) w'∧Below w.heap.size w w':=by
 have HF:Hid (FAt F T D g w∧D∈fieldsL∧Sl ao n a w∧Sl bo m b w∧El D a∧El D b∧Bd n a∧Bd m b):=⟨h,hD,hA,hB,ha,hb,hbn,hbm⟩
 have HL:Hid (LtB ao w.heap.size∧LtB bo w.heap.size):=⟨hla,hlb⟩
 clear h hD hA hB ha hb hbn hbm hla hlb
 obtain⟨N,hN⟩:∃N,N=max n m:=⟨_,rfl⟩
 rw[←hN]
 have hN2:N≤1000:=by omega
 have hnN:n≤N:=by omega
 have hmN:m≤N:=by omega
 have hmax:(if(n:Int)<(m:Int)then(m:Int)else(n:Int))=(N:Int):=by split<;>omega
 have HN:Hid (N=max n m):=hN
 clear hN
 go_enter Tryz.func131,Tryz.ntmps131
 go_wp2_with (first
  |(at_make;refine make_int rfl _ _ rfl _ N rfl rfl (by have:=HN.out;omega) (by omega) ?_;intro w1 hown1 hgrow1)
  |(show wpList _ _ _ (Oper.mk (some 18) _ _ _ _ _::_) _ _;(refine copy_int rfl _ _ rfl w.heap.size N N n ca ao rfl rfl pnil a (row_zeros hown1) (HF.out.2.2.1.below (below_grown hgrow1 (Nat.le_refl _) (fun k hk=>by simp at hk)) HL.out.1) hnN w.heap.size w (below_grown hgrow1 (Nat.le_refl _) (fun k hk=>by simp at hk)) (Nat.le_refl _) ?_);intro w2 hrow2 hb2))
 all_goals
  have HB1:Hid (Below w.heap.size w w2∧Row w.heap.size N a w2):=⟨hb2,hrow2.congr (fun k _=>by show(if k<n then a k else pnil k)=a k;split;rfl;exact(HF.out.2.2.2.2.2.2.1 k (by omega)).symm)⟩
  clear hown1 hgrow1 hb2 hrow2
  go_loopw [21] (fun i wr=>∃r:Nat,r≤m∧i = .int .i64 r∧Row w.heap.size N (fun k=>if k<r then D.ad (a k) (b k)else a k) wr∧Below w.heap.size w wr) (fun i _=>m-(intOf i).toNat)
  case atStart=>exact⟨0,by omega,rfl,HB1.out.2.congr (fun k _=>by rw[if_neg (by omega)]),HB1.out.1⟩
  case round=>
   obtain⟨r,hr,rfl,hrow,hbel⟩:=hrel
   have HG:Hid (Row w.heap.size N (fun k=>if k<r then D.ad (a k) (b k)else a k) wr∧Below w.heap.size w wr):=⟨hrow,hbel⟩
   clear hrow hbel
   by_cases hlt:r<m
   ·obtain⟨bb,offb,rfl,hcb⟩:=(HF.out.2.2.2.1.below HG.out.2 HL.out.2) r hlt
    have hco:wr.cell? ⟨w.heap.size,r,none⟩=some (.int .i64 (a r:Nat)):=by
     have h:=HG.out.1.cell r (by omega)
     rw[if_neg (by omega)]at h;exact h
    have hfo:=HG.out.1.free r
    obtain⟨z,hz⟩:∃z,z=D.ad (a r) (b r):=⟨_,rfl⟩
    have HC2:Hid (Calls Tryz.prog 66 #[.pointer (some ⟨F,0,none⟩),.int .i64 (a r:Nat),.int .i64 (b r:Nat)] wr fun e w'=>e = .returned (.int .i64 (z:Nat))∧∃k,w'=wr.drewN k):=by
     show Calls _ _ _ _ _
     rw[hz];exact add_nat HF.out.2.1 (HF.out.1.below HG.out.2 HF.out.1.ltF HF.out.1.ltT) (HF.out.2.2.2.2.1 r) (HF.out.2.2.2.2.2.1 r)
    have HV:Hid (Row w.heap.size N (fun k=>if k<r then D.ad (a k) (b k)else a k) wr∧Below w.heap.size w wr∧∀k,k<N→(if k<r+1 then D.ad (a k) (b k)else a k)=if k=r then z else if k<r then D.ad (a k) (b k)else a k):=
     ⟨HG.out.1,HG.out.2,fun k _=>by
      rw[hz]
      by_cases e:k=r
      ·rw[if_pos e,if_pos (by omega),e]
      ·rw[if_neg e]
       by_cases e2:k<r
       ·rw[if_pos e2,if_pos (by omega)]
       ·rw[if_neg e2,if_neg (by omega)]⟩
    clear hz HG
    have hib:(r:Int)<(N:Int):=by omega
    go_wp2_with (go_at_call 66;refine HC2.out.mono ?_;rintro e w' ⟨rfl,nq,rfl⟩)
    go_roundw
    case rel=>exact⟨r+1,by omega,by go_num,(HV.out.1.drewN nq).store r z (fun k hk=>HV.out.2.2 k hk),(below_drewN2 HV.out.2.1 nq).setCell (by simp) _⟩
    case measure=>simp[intOf];omega
   ·have HE:Hid (Row w.heap.size N (padd D a b) wr):=HG.out.1.congr (fun k _=>by
     show(if k<r then D.ad (a k) (b k)else a k)=D.ad (a k) (b k)
     split
     ·rfl
     ·rw[HF.out.2.2.2.2.2.2.2 k (by omega),ad_zero (fld HF.out.2.1) (HF.out.2.2.2.2.1 k)])
    go_wp2_with fail
    refine(trim_any (HE.out.sl (Nat.le_refl _)) (Nat.le_refl _) (by omega)).mono ?_
    rintro e w' ⟨rfl,k,rfl⟩
    go_wp2
    go_ret
    exact⟨_,rfl,OwnP.of_row (HE.out.drewN k) (dgn_le _ _) (dgn_le _ _) (by omega) (Nat.le_refl _),below_drewN2 HG.out.2 _⟩
theorem inv_nat' {F T:Nat}{D:FD}(hD:D∈fieldsL){g:Nat→Value}{w:World}(h:FAt F T D g w){x:Nat}(hx:x<D.q)(h0:x≠0) :
  Calls Tryz.prog 130 #[.pointer (some ⟨F,0,none⟩),.int .i64 x] w fun e w'=>e = .returned (.int .i64 (D.iv x:Nat))∧∃n,w'=w.drewN n:=by
 have k:=inv_any hD h x
 rw[inv_nat hD hx h0]at k
 exact k
theorem subZ_nat {D:FD}(F:Fld D){a b:Nat}(ha:a<D.q)(hb:b<D.q):D.subZ a b=(D.sb a b:Nat):=by
 rw[FD.subZ,FD.negZ,if_pos (nat_has hb),Int.toNat_natCast,addZ_nat F ha (F.neg_lt b hb)];rfl
theorem sub_nat {F T:Nat}{D:FD}(hD:D∈fieldsL){g:Nat→Value}{w:World}(h:FAt F T D g w){a b:Nat}(ha:a<D.q)(hb:b<D.q) :
  Calls Tryz.prog 126 #[.pointer (some ⟨F,0,none⟩),.int .i64 a,.int .i64 b] w fun e w'=>e = .returned (.int .i64 (D.sb a b:Nat))∧∃n,w'=w.drewN n:=by
 rw[←subZ_nat (fld hD) ha hb];exact sub_any hD h a b
theorem OwnP.setOther {base n:Nat}{v:Value}{c:Nat→Nat}{w:World}(h:OwnP base v n c w)(a:Addr)(ha:∀g,v.ownBlock=some g→g≠a.block)(u:Value):OwnP base v n c (w.setCell a u):=by
 obtain⟨ao,cap,rfl,h1,h2,hg,hl,hz,hr⟩:=h
 refine⟨ao,cap,rfl,h1,h2,hg,fun x hx=>by simpa [World.setCell]using hl x hx,hz,fun h0=>?_⟩
 obtain⟨g,rfl,hrow⟩:=hr h0
 exact⟨g,rfl,hrow.other (Below.heap_setCell _ _ _ _ (ha g rfl))⟩
theorem OwnP.store {base n cap g:Nat}{c d:Nat→Nat}{w:World}(h:OwnP base (.slice (some ⟨g, 0, none⟩) n cap) n c w)(k u:Nat)(h0:0<n)(hd:∀j, j<n→d j=if j=k then u else c j) :
  OwnP base (.slice (some ⟨g,0,none⟩) n cap) n d (w.setCell ⟨g,k,none⟩ (.int .i64 (u:Nat))):=by
 obtain⟨ao,cap',hv,h1,h2,hg,hl,hz,hr⟩:=h
 simp only[Value.slice.injEq,true_and]at hv
 obtain⟨rfl,rfl⟩:=hv
 obtain⟨g',e,hrow⟩:=hr h0
 cases e
 exact⟨_,cap,rfl,h1,h2,hg,fun x hx=>by simpa [World.setCell]using hl x hx,fun e=>(by cases e),fun _=>⟨g,rfl,hrow.store k u hd⟩⟩
theorem OwnP.row {base n cap:Nat}{ao:Option Addr}{c:Nat→Nat}{w:World}(h:OwnP base (.slice ao n cap) n c w)(h0:0<n):∃g,ao=some ⟨g,0,none⟩∧base≤g∧g<w.heap.size∧Row g n c w:=by
 obtain⟨ao',cap',hv,h1,h2,hg,hl,hz,hr⟩:=h
 simp only[Value.slice.injEq,true_and]at hv
 obtain⟨rfl,rfl⟩:=hv
 obtain⟨g,rfl,hrow⟩:=hr h0
 exact⟨g,rfl,hg _ rfl,hl _ rfl,hrow⟩
theorem OwnP.trimmed {base n cap:Nat}{ao:Option Addr}{c:Nat→Nat}{w:World}(h:OwnP base (.slice ao n cap) n c w):OwnP base (.slice ao (dgn c n) cap) (dgn c n) c w:=by
 obtain⟨ao',cap',hv,h1,h2,hg,hl,hz,hr⟩:=h
 simp only[Value.slice.injEq,true_and]at hv
 obtain⟨rfl,rfl⟩:=hv
 have:=dgn_le c n
 refine⟨_,_,rfl,by omega,h2,hg,hl,hz,fun h0=>?_⟩
 obtain⟨g,e,hrow⟩:=hr (by omega)
 exact⟨g,e,hrow.less this⟩
def pst(D:FD)(b:Nat→Nat)(l inv s:Nat)(r:Nat→Nat)(j:Nat):Nat→Nat:=fun k=>if s≤k∧k<s+j then dstep D b l inv s r k else r k
theorem pst_zero(D:FD)(b:Nat→Nat)(l inv s:Nat)(r:Nat→Nat):pst D b l inv s r 0=r:=by funext k;unfold pst;rw[if_neg (by omega)]
theorem pst_all {D:FD}(F:Fld D){b r:Nat→Nat}{l inv s:Nat}(hr:El D r)(hb:Bd (l+1) b):pst D b l inv s r (l+1)=dstep D b l inv s r:=by
 funext k
 unfold pst
 by_cases h:s≤k∧k<s+(l+1)
 ·rw[if_pos h]
 ·rw[if_neg h]
  by_cases h2:k<s
  ·exact(dstep_lo F hr h2).symm
  ·exact(dstep_hi F hr hb (by omega)).symm
theorem pst_step(D:FD)(b r:Nat→Nat)(l inv s j k:Nat):pst D b l inv s r (j+1) k=if k=s+j then dstep D b l inv s r (s+j)else pst D b l inv s r j k:=by
 unfold pst
 by_cases h:k=s+j
 ·rw[if_pos h,if_pos (by omega),h]
 ·rw[if_neg h]
  by_cases h2:s≤k∧k<s+j
  ·rw[if_pos h2,if_pos (by omega)]
  ·rw[if_neg h2,if_neg (by omega)]
theorem pst_at(D:FD)(b r:Nat→Nat)(l inv s j:Nat):pst D b l inv s r j (s+j)=r (s+j):=by unfold pst;rw[if_neg (by omega)]
set_option maxHeartbeats 8000000 in
set_option maxRecDepth 100000 in
theorem divide_any {F T:Nat}{D:FD}(hD:D∈fieldsL){g:Nat→Value}{w:World}(h:FAt F T D g w){ao bo:Option Addr}{n l ca cb:Nat}{a b:Nat→Nat}(hn:n≤1000)(hm:l<1000)(ha:El D a)(hb:El D b)(hbn:Bd n a)(hbm:Bd (l+1) b)(hbl:b l≠0)
  (hA:Sl ao n a w) (hB:Sl bo (l+1) b w) (hla:LtB ao w.heap.size) (hlb:LtB bo w.heap.size) (hnil:ao=none→ca=0) :
  Calls Tryz.prog 124 #[.pointer (some ⟨F,0,none⟩),.slice ao n ca,.slice bo (l+1) cb] w fun e w'=>
   ∃vq vr,e = .returned (.tuple #[vq,vr])∧OwnP w.heap.size vq (dgn (divQ D b l (D.iv (b l)) (n-l) a) (n-l)) (divQ D b l (D.iv (b l)) (n-l) a) w' ∧
    OwnP w.heap.size vr (dgn (divR D b l (D.iv (b l)) (n-l) a) n) (divR D b l (D.iv (b l)) (n-l) a) w'∧Below w.heap.size w w':=by
 have HF:Hid (FAt F T D g w∧D∈fieldsL∧Sl ao n a w∧Sl bo (l+1) b w∧El D a∧El D b∧Bd n a∧Bd (l+1) b∧b l≠0):=⟨h,hD,hA,hB,ha,hb,hbn,hbm,hbl⟩
 have HL:Hid (LtB ao w.heap.size∧LtB bo w.heap.size∧(ao=none→ca=0)):=⟨hla,hlb,hnil⟩
 clear h hD hA hB ha hb hbn hbm hla hlb hnil hbl
 obtain⟨nq,hnq⟩:∃nq,nq=n-l:=⟨_,rfl⟩
 obtain⟨inv,hinv⟩:∃inv,inv=D.iv (b l):=⟨_,rfl⟩
 rw[←hnq, ←hinv]
 have HN:Hid (nq=n-l∧inv=D.iv (b l)):=⟨hnq,hinv⟩
 have hnq2:nq≤1000:=by omega
 clear hnq hinv
 obtain⟨bb,offb,rfl,_⟩:=HF.out.2.2.2.1 l (by omega)
 go_enter Tryz.func124,Tryz.ntmps124
 go_wp2_with fail
 refine(clone_any HF.out.2.2.1 (by omega) HL.out.2.2 HL.out.1).mono ?_
 rintro e w1 ⟨vr,rfl,hor,hb1⟩
 obtain⟨ro,rc,rfl,hr1,hr2,hrg,hrl,hrz,hrs⟩:=hor.open
 have HB1:Hid (OwnP w.heap.size (.slice ro n rc) n a w1∧Below w.heap.size w w1∧LtB ro w1.heap.size):=⟨hor,hb1,hrl⟩
 clear hor hb1 hrg hrl hrz hrs
 go_wp2_with (first
  |(at_make;refine make_int rfl _ _ rfl _ nq rfl rfl (by have:=HN.out;omega) (by omega) ?_;intro w2 hown2 hgrow2;have hcb:=HF.out.2.2.2.1.below (bel_up HB1.out.2.1 (below_grown hgrow2 (Nat.le_refl _) (fun k hk=>by simp at hk))) HL.out.2.1 l (by omega);obtain⟨bb',offb',e',hcb⟩:=hcb;simp only[Option.some.injEq,Addr.mk.injEq,and_true]at e';obtain⟨rfl,rfl⟩:=e')
  |(go_at_call 130;refine(inv_nat' HF.out.2.1 (HF.out.1.below (bel_up HB1.out.2.1 (below_grown hgrow2 (Nat.le_refl _) (fun k hk=>by simp at hk))) HF.out.1.ltF HF.out.1.ltT) (HF.out.2.2.2.2.2.1 l) HF.out.2.2.2.2.2.2.2.2).mono ?_;rintro e w' ⟨rfl,d,rfl⟩))
 all_goals
  have HB2:Hid (OwnP w.heap.size (.slice ro n rc) n a (w2.drewN d)∧Row w1.heap.size nq pnil (w2.drewN d)∧Below w.heap.size w (w2.drewN d)):=by
   have hg:=below_grown hgrow2 (Nat.le_refl _) (fun k hk=>by simp at hk)
   exact⟨(HB1.out.1.below hg (Nat.le_refl _)).drewN d,(row_zeros hown2).drewN d,below_drewN2 (bel_up HB1.out.2.1 hg) d⟩
  have hsz1:=HB1.out.2.1.size
  rw[show D.iv (b l)=inv from HN.out.2.symm]
  clear hown2 hgrow2 hcb
  go_loopw [10] (fun i wr=>∃(s:Nat) (r:Nat→Nat), s≤nq∧i = .int .i64 ((s:Int)-1)∧El D r∧Hid (divR D b l inv s r=divR D b l inv nq a∧∀k, k<s→divQ D b l inv s r k=divQ D b l inv nq a k)∧
    OwnP w.heap.size (.slice ro n rc) n r wr∧Row w1.heap.size nq (fun k=>if s≤k then divQ D b l inv nq a k else 0) wr∧Below w.heap.size w wr) (fun i _=>(intOf i+1).toNat)
  case atStart=>exact⟨nq,a,Nat.le_refl _,rfl,HF.out.2.2.2.2.1,⟨rfl,fun _ _=>rfl⟩,HB2.out.1,HB2.out.2.1.congr (fun k hk=>by show 0=if nq≤k then _ else 0;rw[if_neg (by omega)]),HB2.out.2.2⟩
  case round=>
   obtain⟨s,r,hs,hi,hre,HD,hor,hrq,hbel⟩:=hrel
   have HG:Hid (El D r∧OwnP w.heap.size (.slice ro n rc) n r wr∧Row w1.heap.size nq (fun k=>if s≤k then divQ D b l inv nq a k else 0) wr∧Below w.heap.size w wr):=⟨hre,hor,hrq,hbel⟩
   clear hre hor hrq hbel
   cases s with
   | succ s=>
    have hi':u10 = .int .i64 (s:Int):=by rw[hi];go_num
    clear hi
    subst hi'
    have hsl:s+l<n:=by have:=HN.out;omega
    first
    |exfalso;omega
    |obtain⟨gr,rfl,hgr1,hgr2,hrow⟩:=HG.out.2.1.row (by omega)
     have hgr:gr<w1.heap.size:=HB1.out.2.2 _ rfl
     have x1:wr.cell? ⟨gr,s+l,none⟩=some (.int .i64 (r (s+l):Nat)):=hrow.cell _ hsl
     obtain⟨xv,x2⟩:∃v,wr.cell? ⟨w1.heap.size,s,none⟩=some v:=⟨_,HG.out.2.2.1.cell s (by omega)⟩
     have x3:=HG.out.2.2.1.free s
     have hib:(s:Int)<(nq:Int):=by omega
     have HQ:Hid (D.mul (r (s+l)) inv=divQ D b l inv nq a s):=by
      have h:=HD.out.2 s (by omega)
      rw[divQ]at h
      have h:(if s=s then D.mul (r (s+l)) inv else divQ D b l inv s (dstep D b l inv s r) s)=divQ D b l inv nq a s:=h
      rw[if_pos rfl]at h;exact h
     obtain⟨qs,hqs⟩:∃qs,qs=divQ D b l inv nq a s:=⟨_,rfl⟩
     have HC:Hid (Calls Tryz.prog 67 #[.pointer (some ⟨F,0,none⟩),.int .i64 (r (s+l):Nat),.int .i64 (inv:Nat)] wr fun e w'=>e = .returned (.int .i64 (qs:Nat))∧∃k,w'=wr.drewN k):=by
      show Calls _ _ _ _ _
      rw[hqs, ←HQ.out]
      exact mul_nat HF.out.2.1 (HF.out.1.below HG.out.2.2.2 HF.out.1.ltF HF.out.1.ltT) (HG.out.1 _) (by rw[HN.out.2];exact iv_lt HF.out.2.1 _)
     have HQ2:Hid (qs=divQ D b l inv nq a s):=hqs
     clear hqs hrow
     go_wp2_with (go_at_call 67;refine HC.out.mono ?_;rintro e w' ⟨rfl,d2,rfl⟩)
     have HG2:Hid (El D r∧OwnP w.heap.size (.slice (some ⟨gr,0,none⟩) n rc) n r ((wr.drewN d2).setCell ⟨w1.heap.size,s,none⟩ (.int .i64 (qs:Nat)))∧Row w1.heap.size nq (fun k=>if s≤k then divQ D b l inv nq a k else 0) ((wr.drewN d2).setCell ⟨w1.heap.size,s,none⟩ (.int .i64 (qs:Nat)))∧Below w.heap.size w ((wr.drewN d2).setCell ⟨w1.heap.size,s,none⟩ (.int .i64 (qs:Nat)))):=by
      refine⟨HG.out.1,(HG.out.2.1.drewN d2).setOther _ (fun g hg=>?_) _,(HG.out.2.2.1.drewN d2).store s qs (fun j hj=>?_),(below_drewN2 HG.out.2.2.2 d2).setCell (by show w.heap.size≤w1.heap.size;omega) _⟩
      ·have hg:some gr=some g:=hg
       cases hg
       show gr≠w1.heap.size
       omega
      ·show(if s≤j then _ else 0)=if j=s then qs else if s+1≤j then _ else 0
       by_cases e:j=s
       ·rw[if_pos e,if_pos (by omega),HQ2.out,e]
       ·rw[if_neg e]
        by_cases e2:s≤j
        ·rw[if_pos e2,if_pos (by omega)]
        ·rw[if_neg e2,if_neg (by omega)]
     clear HG x1 x2 x3
     go_loopw [53] (fun i wr=>∃j:Nat,j≤l+1∧i = .int .i64 j∧OwnP w.heap.size (.slice (some ⟨gr,0,none⟩) n rc) n (pst D b l inv s r j) wr∧Row w1.heap.size nq (fun k=>if s≤k then divQ D b l inv nq a k else 0) wr∧Below w.heap.size w wr) (fun i _=>l+1-(intOf i).toNat)
     case atStart=>exact⟨0,by omega,rfl,by rw[pst_zero];exact HG2.out.2.1,HG2.out.2.2.1,HG2.out.2.2.2⟩
     case round=>
      obtain⟨j,hj,rfl,hor,hrq,hbel⟩:=hrel
      have HG:Hid (El D r∧OwnP w.heap.size (.slice (some ⟨gr,0,none⟩) n rc) n (pst D b l inv s r j) wr∧Row w1.heap.size nq (fun k=>if s≤k then divQ D b l inv nq a k else 0) wr∧Below w.heap.size w wr):=⟨HG2.out.1,hor,hrq,hbel⟩
      clear hor hrq hbel HG2
      by_cases hjl:j<l+1
      ·obtain⟨bb',offb',e',hcb⟩:=(HF.out.2.2.2.1.below HG.out.2.2.2 HL.out.2.1) j hjl
       simp only[Option.some.injEq,Addr.mk.injEq,and_true]at e'
       obtain⟨rfl,rfl⟩:=e'
       obtain⟨gr',e2,_,_,hrow⟩:=HG.out.2.1.row (by omega)
       cases e2
       obtain⟨t,ht⟩:∃t:Nat,t=s+j:=⟨_,rfl⟩
       have x1:wr.cell? ⟨gr,t,none⟩=some (.int .i64 (r t:Nat)):=by
        have h:=hrow.cell (s+j) (by omega)
        rw[pst_at]at h;rw[ht];exact h
       have x4:=hrow.free t
       have x2:wr.cell? ⟨w1.heap.size,s,none⟩=some (.int .i64 (qs:Nat)):=by
        have h:=HG.out.2.2.1.cell s (by omega)
        rw[if_pos (Nat.le_refl _)]at h;rw[HQ2.out];exact h
       have htb:(t:Int)<(n:Int):=by omega
       have w1':IntKind.i64.wrap ((s:Int)+(j:Int))=(t:Int):=wrap_to (by omega) (by omega)
       obtain⟨y,hy⟩:∃y,y=D.mul qs (b j):=⟨_,rfl⟩
       obtain⟨z,hz⟩:∃z,z=D.sb (r t) y:=⟨_,rfl⟩
       obtain⟨rt,hrt⟩:∃rt,rt=r t:=⟨_,rfl⟩
       rw[←hrt]at x1 hz
       have hqlt:qs<D.q:=by rw[HQ2.out];exact el_divQ (fld HF.out.2.1) nq a s
       have HC1:Hid (∀d,Calls Tryz.prog 67 #[.pointer (some ⟨F,0,none⟩),.int .i64 (qs:Nat),.int .i64 (b j:Nat)] (wr.drewN d) fun e w'=>e = .returned (.int .i64 (y:Nat))∧∃k,w'=(wr.drewN d).drewN k):=by
        intro d;rw[hy];exact mul_nat HF.out.2.1 ((HF.out.1.below HG.out.2.2.2 HF.out.1.ltF HF.out.1.ltT).drewN d) hqlt (HF.out.2.2.2.2.2.1 j)
       have HC2:Hid (∀d,Calls Tryz.prog 126 #[.pointer (some ⟨F,0,none⟩),.int .i64 (rt:Nat),.int .i64 (y:Nat)] (wr.drewN d) fun e w'=>e = .returned (.int .i64 (z:Nat))∧∃k,w'=(wr.drewN d).drewN k):=by
        intro d;rw[hz];exact sub_nat HF.out.2.1 ((HF.out.1.below HG.out.2.2.2 HF.out.1.ltF HF.out.1.ltT).drewN d) (by rw[hrt];exact HG.out.1 t) (by rw[hy];exact(fld HF.out.2.1).mul_lt _ _)
       have HV:Hid (∀k,k<n→pst D b l inv s r (j+1) k=if k=t then z else pst D b l inv s r j k):=by
        intro k _
        rw[pst_step,ht,hz,hrt,hy,HQ2.out, ←HQ.out,dstep_at,ht]
       have hgne:gr≠w1.heap.size:=by omega
       clear ht hy hz hrt hrow
       go_wp2
       refine quiet_tail 20 (by kernel_rfl) (by kernel_rfl) ?_
       simp only[List.take_succ_cons,List.take_zero,List.drop_succ_cons,List.drop_zero]
       repeat(go_big_quiet_step (first|(go_at_call 67;exact Calls.quiet_of (HC1.out _))|(go_at_call 126;exact Calls.quiet_of (HC2.out _))))
       refine wpQuiet_nil ?_
       intro _ hw'
       obtain⟨nd,hw''⟩:=hw'
       subst hw''
       go_wp2
       go_roundw
       case rel=>exact⟨j+1,by omega,by go_num,(HG.out.2.1.drewN nd).store t z (by omega) HV.out,(HG.out.2.2.1.drewN nd).other (Below.heap_setCell _ _ _ _ (fun e=>hgne e.symm)),(below_drewN2 HG.out.2.2.2 nd).setCell (by show w.heap.size≤gr;omega) _⟩
       case measure=>simp[intOf];omega
      ·have HE:Hid (OwnP w.heap.size (.slice (some ⟨gr, 0, none⟩) n rc) n (dstep D b l inv s r) wr):=by
        have h:=HG.out.2.1
        rw[show j=l+1 from by omega,pst_all (fld HF.out.2.1) HG.out.1 HF.out.2.2.2.2.2.2.2.1]at h;exact h
       have HD2:Hid (divR D b l inv s (dstep D b l inv s r)=divR D b l inv nq a∧∀k,k<s→divQ D b l inv s (dstep D b l inv s r) k=divQ D b l inv nq a k):=by
        refine⟨HD.out.1,fun k hk=>?_⟩
        have h:=HD.out.2 k (by omega)
        rw[divQ]at h
        have h:(if k=s then D.mul (r (s+l)) inv else divQ D b l inv s (dstep D b l inv s r) k)=divQ D b l inv nq a k:=h
        rw[if_neg (by omega)]at h;exact h
       go_wp2
       go_roundw
       case rel=>exact⟨s,dstep D b l inv s r,by omega,by go_num,el_dstep (fld HF.out.2.1) HG.out.1,HD2.out,HE.out,HG.out.2.2.1,HG.out.2.2.2⟩
       case measure=>simp[intOf]
   | zero=>
    have hi':u10 = .int .i64 (-1):=by rw[hi];rfl
    clear hi
    subst hi'
    have HE:Hid (OwnP w.heap.size (.slice ro n rc) n (divR D b l inv nq a) wr∧Row w1.heap.size nq (divQ D b l inv nq a) wr):=
     ⟨by rw[←HD.out.1];exact HG.out.2.1,HG.out.2.2.1.congr (fun k _=>by show(if 0≤k then _ else 0)=_;rw[if_pos (Nat.zero_le _)])⟩
    go_wp2_with fail
    refine(trim_any (HE.out.2.sl (Nat.le_refl _)) (Nat.le_refl _) (by omega)).mono ?_
    rintro e w' ⟨rfl,k1,rfl⟩
    go_wp2_with fail
    obtain⟨ro',rc',hv',h1',h2',_,_,_,hsl'⟩:=(HE.out.1.drewN k1).open
    simp only[Value.slice.injEq,true_and]at hv'
    obtain⟨rfl,rfl⟩:=hv'
    refine(trim_any hsl' h1' h2').mono ?_
    rintro e w' ⟨rfl,k2,rfl⟩
    go_wp2
    go_ret2
    refine⟨_,_,rfl,OwnP.of_row (HE.out.2.drewN _) (dgn_le _ _) (dgn_le _ _) (by omega) (by omega),?_,below_drewN2 HG.out.2.2.2 _⟩
    exact(HE.out.1.drewN _).trimmed
def SlZ(ao:Option Addr)(n:Nat)(z:Nat→Int)(w:World):Prop:=∀j,j<n→∃b off,ao=some ⟨b,off,none⟩∧w.cell? ⟨b,off+j,none⟩=some (.int .i64 (z j))
theorem SlZ.below {ao:Option Addr}{n B:Nat}{z:Nat→Int}{w w':World}(h:SlZ ao n z w)(hb:Below B w w')(hB:LtB ao B):SlZ ao n z w':=fun j hj=>by
 obtain⟨b,off,rfl,hc⟩:=h j hj
 exact⟨b,off,rfl,((bcell hb).1 b (off+j) (hB _ rfl)).trans hc⟩
def FD.allHas(D:FD)(z:Nat→Int):Nat→Bool
 | 0=>true
 |n+1=>D.allHas z n && D.has (z n)
theorem allHas_iff {D:FD}{z:Nat→Int}:∀ {n:Nat},D.allHas z n=true↔∀j,j<n→D.has (z j)=true
 | 0=>⟨fun _ j hj=>by omega,fun _=>rfl⟩
 |n+1=>by
  rw[FD.allHas,Bool.and_eq_true,allHas_iff]
  constructor
  ·rintro⟨h1,h2⟩ j hj
   by_cases e:j=n
   ·rw[e];exact h2
   ·exact h1 j (by omega)
  ·intro h
   exact⟨fun j hj=>h j (by omega),h n (by omega)⟩
def FD.chk(D:FD)(n:Nat)(z:Nat→Int):Int:=if 128<n then 4 else if D.allHas z n=true then 0 else 2
set_option maxHeartbeats 2000000 in
set_option maxRecDepth 100000 in
theorem check_any {D:FD}(hD:D∈fieldsL){ao:Option Addr}{n cap:Nat}{z:Nat→Int}{w:World}(h:SlZ ao n z w)(hl:LtB ao w.heap.size)(hn:n≤1000000) :
  Calls Tryz.prog 47 #[.int .i64 D.q,.slice ao n cap] w fun e w'=>e = .returned (.int .i64 (D.chk n z))∧Below w.heap.size w w':=by
 have HS:Hid (SlZ ao n z w∧LtB ao w.heap.size∧D∈fieldsL):=⟨h,hl,hD⟩
 clear h hl hD
 go_enter Tryz.func47,Tryz.ntmps47
 go_wp2_with fail
 refine(new_any HS.out.2.2 w).mono ?_
 rintro e w1 ⟨F,T,g,rfl,hat,hF,hT,hb1⟩
 have HA:Hid (FAt F T D g w1∧SlZ ao n z w1∧Below w.heap.size w w1):=⟨hat,HS.out.1.below hb1 HS.out.2.1,hb1⟩
 clear hat hF hT hb1
 by_cases h128:128<n
 ·have HV:Hid (D.chk n z=4):=by show D.chk n z=4;rw[FD.chk,if_pos h128]
  go_wp2
  go_ret
  exact⟨ret_int (by rw[HV.out]),HA.out.2.2⟩
 ·go_wp2
  go_loopw [22] (fun i wr=>∃r:Nat,r≤n∧i = .int .i64 r∧Hid (D.allHas z r=true)∧wr=w1) (fun i _=>n-(intOf i).toNat)
  case atStart=>exact⟨0,by omega,rfl,rfl,rfl⟩
  case round=>
   obtain⟨r,hr,rfl,HH,rfl⟩:=hrel
   by_cases hlt:r<n
   ·obtain⟨b,off,rfl,hc⟩:=HA.out.2.1 r hlt
    by_cases hh:D.has (z r)=true
    ·have HH2:Hid (D.allHas z (r+1)=true):=by show D.allHas z (r+1)=true;rw[FD.allHas,HH.out,hh];rfl
     go_wp2_with (go_at_call 45;refine(has_any HA.out.1 _).mono ?_;rintro e w' ⟨rfl,hw⟩;have hw:=hw.symm;subst hw)
     go_roundw
     case rel=>exact⟨r+1,by omega,by go_num,HH2.out,by first|rfl|trivial⟩
     case measure=>simp[intOf];omega
    ·have hh':D.has (z r)=false:=by simpa using hh
     have HV:Hid (D.chk n z=2):=by
      show D.chk n z=2
      rw[FD.chk,if_neg h128,if_neg]
      intro e
      exact hh (allHas_iff.1 e r hlt)
     clear hh
     go_wp2_with (go_at_call 45;refine(has_any HA.out.1 _).mono ?_;rintro e w' ⟨rfl,hw⟩;have hw:=hw.symm;subst hw)
     go_ret
     exact⟨ret_int (by rw[HV.out]),HA.out.2.2⟩
   ·have HV:Hid (D.chk n z=0):=by
     show D.chk n z=0
     have e:r=n:=by omega
     rw[FD.chk,if_neg h128,if_pos (e▸HH.out)]
    go_wp2
    go_ret
    exact⟨ret_int (by rw[HV.out]),HA.out.2.2⟩
def FD.chks(D:FD)(N:Nat→Nat)(Z:Nat→Nat→Int):Nat→Int
 | 0=>0
 |k+1=>if D.chks N Z k=0 then D.chk (N k) (Z k)else D.chks N Z k
structure Many(g k:Nat)(A:Nat→Option Addr)(N C:Nat→Nat)(Z:Nat→Nat→Int)(w:World):Prop where
 cell:∀j,j<k→w.cell? ⟨g,j,none⟩=some (.slice (A j) (N j) (C j))
 sl:∀j,j<k→SlZ (A j) (N j) (Z j) w
 lt:∀j,j<k→LtB (A j) w.heap.size
 few:∀j,j<k→N j≤1000000
 ltg:g<w.heap.size
theorem Many.below {g k:Nat}{A:Nat→Option Addr}{N C:Nat→Nat}{Z:Nat→Nat→Int}{w w':World}(h:Many g k A N C Z w)(hb:Below w.heap.size w w'):Many g k A N C Z w':=
 ⟨fun j hj=>((bcell hb).1 g j h.ltg).trans (h.cell j hj),fun j hj=>(h.sl j hj).below hb (h.lt j hj),fun j hj=>(h.lt j hj).mono hb.size,h.few,Nat.lt_of_lt_of_le h.ltg hb.size⟩
theorem chks_keep {D:FD}{N:Nat→Nat}{Z:Nat→Nat→Int}{e:Int}(he:e≠0){r:Nat}(h:D.chks N Z r=e):∀d,D.chks N Z (r+d)=e
 | 0=>h
 |d+1=>by rw[←Nat.add_assoc,FD.chks,chks_keep he h d,if_neg he]
set_option maxHeartbeats 2000000 in
set_option maxRecDepth 100000 in
theorem over_any {D:FD}(hD:D∈fieldsL){g k cap:Nat}{A:Nat→Option Addr}{N C:Nat→Nat}{Z:Nat→Nat→Int}{w:World}(h:Many g k A N C Z w)(hk:k≤1000) :
  Calls Tryz.prog 120 #[.int .i64 D.q,.slice (some ⟨g,0,none⟩) k cap] w fun e w'=>Below w.heap.size w w' ∧
   ((D.chks N Z k=0∧∃F T f,e = .returned (.tuple #[.pointer (some ⟨F,0,none⟩),.int .i64 0])∧FAt F T D f w'∧w.heap.size≤F∧w.heap.size≤T)∨(D.chks N Z k≠0∧e = .returned (.tuple #[.pointer none,.int .i64 (D.chks N Z k)]))):=by
 have HM:Hid (Many g k A N C Z w∧D∈fieldsL):=⟨h,hD⟩
 clear h hD
 go_enter Tryz.func120,Tryz.ntmps120
 go_wp2
 go_loopw [11] (fun i wr=>∃r:Nat,r≤k∧i = .int .i64 r∧Hid (D.chks N Z r=0)∧Many g k A N C Z wr∧Below w.heap.size w wr) (fun i _=>k-(intOf i).toNat)
 case atStart=>exact⟨0,by omega,rfl,rfl,HM.out.1,Below.refl _ _⟩
 case round=>
  obtain⟨r,hr,rfl,HH,hmany,hbel⟩:=hrel
  have HG:Hid (Many g k A N C Z wr∧Below w.heap.size w wr):=⟨hmany,hbel⟩
  clear hmany hbel
  by_cases hlt:r<k
  ·have hc:=HG.out.1.cell r hlt
   have hib:(r:Int)<(k:Int):=by omega
   obtain⟨e,he⟩:∃e,e=D.chk (N r) (Z r):=⟨_,rfl⟩
   have HC:Hid (Calls Tryz.prog 47 #[.int .i64 D.q,.slice (A r) (N r) (C r)] wr fun x w'=>x = .returned (.int .i64 e)∧Below wr.heap.size wr w'):=by
    show Calls _ _ _ _ _
    rw[he];exact check_any HM.out.2 (HG.out.1.sl r hlt) (HG.out.1.lt r hlt) (HG.out.1.few r hlt)
   have HE:Hid (D.chks N Z (r+1)=e):=by show D.chks N Z (r+1)=e;rw[FD.chks,if_pos HH.out,he]
   clear he
   by_cases h0:e=0
   ·have hz:(e != 0)=false:=by rw[h0];rfl
    have HE2:Hid (D.chks N Z (r+1)=0):=by show _=_;rw[HE.out,h0]
    clear h0
    go_wp2_with (go_at_call 47;refine HC.out.mono ?_;rintro x w' ⟨rfl,hb'⟩)
    go_roundw
    case rel=>exact⟨r+1,by omega,by go_num,HE2.out,HG.out.1.below hb',bel_up HG.out.2 hb'⟩
    case measure=>simp[intOf];omega
   ·have hz:(e != 0)=true:=by rw[bne_iff_ne];exact h0
    have HE2:Hid (D.chks N Z k=e∧e≠0):=by
     have h:=chks_keep h0 HE.out (k-(r+1))
     rw[show r+1+(k-(r+1))=k from by omega]at h
     exact⟨h,h0⟩
    clear h0
    go_wp2_with (go_at_call 47;refine HC.out.mono ?_;rintro x w' ⟨rfl,hb'⟩)
    go_ret2
    exact⟨bel_up HG.out.2 hb',Or.inr ⟨by rw[HE2.out.1];exact HE2.out.2,by rw[HE2.out.1];rfl⟩⟩
  ·have HE:Hid (D.chks N Z k=0):=by show _=_;rw[←show r=k from by omega];exact HH.out
   go_wp2_with fail
   refine(new_any HM.out.2 wr).mono ?_
   rintro x w1 ⟨F,T,f,rfl,hat,hF,hT,hb1⟩
   have HA:Hid (FAt F T D f w1∧wr.heap.size≤F∧wr.heap.size≤T∧Below wr.heap.size wr w1):=⟨hat,hF,hT,hb1⟩
   clear hat hF hT hb1
   go_wp2
   go_ret2
   have hs:=HG.out.2.size
   exact⟨bel_up HG.out.2 HA.out.2.2.2,Or.inl ⟨HE.out,F,T,f,rfl,HA.out.1,by have:=HA.out.2.1;omega,by have:=HA.out.2.2.1;omega⟩⟩
structure Arg(ao:Option Addr)(n cap:Nat)(z:Nat→Int)(w:World):Prop where
 sl:SlZ ao n z w
 lt:LtB ao w.heap.size
 few:n≤1000000
 nil:ao=none→cap=0
 le:n≤cap
 cap:cap≤9223372036854775807
theorem Arg.below {ao:Option Addr}{n cap:Nat}{z:Nat→Int}{w w':World}(h:Arg ao n cap z w)(hb:Below w.heap.size w w'):Arg ao n cap z w':=
 ⟨h.sl.below hb h.lt,h.lt.mono hb.size,h.few,h.nil,h.le,h.cap⟩
def two {α:Type}(x y:α):Nat→α:=fun j=>if j=0 then x else y
theorem many_two {ao bo:Option Addr}{n m ca cb:Nat}{z y:Nat→Int}{w:World}(ha:Arg ao n ca z w)(hb:Arg bo m cb y w) :
  Many w.heap.size 2 (two ao bo) (two n m) (two ca cb) (two z y) (w.alloc (.cells #[.slice ao n ca,.slice bo m cb] 22)):=by
 have hbl:Below w.heap.size w (w.alloc (.cells #[.slice ao n ca,.slice bo m cb] 22)):=(Below.refl _ _).alloc (Nat.le_refl _) _
 have a1:=ha.below hbl
 have b1:=hb.below hbl
 refine⟨fun j hj=>?_,fun j hj=>?_,fun j hj=>?_,fun j hj=>?_,by simp⟩
 ·rw[cell_of_row _ _ _ _ _ (0,0) (two_new _)]
  rcases j with _|_|j
  ·rfl
  ·rfl
  ·omega
 ·rcases j with _|_|j
  ·exact a1.sl
  ·exact b1.sl
  ·omega
 ·rcases j with _|_|j
  ·exact a1.lt
  ·exact b1.lt
  ·omega
 ·rcases j with _|_|j
  ·exact a1.few
  ·exact b1.few
  ·omega
def FD.chk2(D:FD)(n:Nat)(z:Nat→Int)(m:Nat)(y:Nat→Int):Int:=if D.chk n z=0 then D.chk m y else D.chk n z
theorem chks_two(D:FD)(n m:Nat)(z y:Nat→Int):D.chks (two n m) (two z y) 2=D.chk2 n z m y:=by
 show(if(if(0:Int)=0 then D.chk n z else 0)=0 then D.chk m y else(if(0:Int)=0 then D.chk n z else 0))=_
 rw[if_pos rfl];rfl
theorem over2_any {D:FD}(hD:D∈fieldsL){ao bo:Option Addr}{n m ca cb:Nat}{z y:Nat→Int}{w:World}(ha:Arg ao n ca z w)(hb:Arg bo m cb y w) :
  Calls Tryz.prog 120 #[.int .i64 D.q,.slice (some ⟨w.heap.size,0,none⟩) 2 2] (w.alloc (.cells #[.slice ao n ca,.slice bo m cb] 22)) fun e w'=>Below w.heap.size w w' ∧
   ((D.chk2 n z m y=0∧∃F T f,e = .returned (.tuple #[.pointer (some ⟨F,0,none⟩),.int .i64 0])∧FAt F T D f w'∧w.heap.size≤F∧w.heap.size≤T)∨(D.chk2 n z m y≠0∧e = .returned (.tuple #[.pointer none,.int .i64 (D.chk2 n z m y)]))):=by
 have h:=over_any hD (cap:=2) (many_two ha hb) (by omega)
 rw[chks_two]at h
 refine h.mono ?_
 rintro e w' ⟨hb',hr⟩
 have hbl:Below w.heap.size w (w.alloc (.cells #[.slice ao n ca,.slice bo m cb] 22)):=(Below.refl _ _).alloc (Nat.le_refl _) _
 refine⟨bel_up hbl hb',?_⟩
 rcases hr with⟨h0,F,T,f,rfl,hat,h1,h2⟩|h
 ·simp at h1 h2
  exact Or.inl ⟨h0,F,T,f,rfl,hat,by omega,by omega⟩
 ·exact Or.inr h
def zc(n:Nat)(z:Nat→Int):Nat→Nat:=fun j=>if j<n then(z j).toNat else 0
theorem zc_bd(n:Nat)(z:Nat→Int):Bd n (zc n z):=fun k hk=>by unfold zc;rw[if_neg (by omega)]
theorem chk_zero {D:FD}{n:Nat}{z:Nat→Int}(h:D.chk n z=0):n≤128∧∀j,j<n→D.has (z j)=true:=by
 unfold FD.chk at h
 by_cases h1:128<n
 ·rw[if_pos h1]at h;cases h
 ·rw[if_neg h1]at h
  by_cases h2:D.allHas z n=true
  ·exact⟨by omega,allHas_iff.1 h2⟩
  ·rw[if_neg h2]at h;cases h
theorem zc_el {D:FD}(F:Fld D){n:Nat}{z:Nat→Int}(h:D.chk n z=0):El D (zc n z):=fun j=>by
 unfold zc
 by_cases e:j<n
 ·obtain⟨x,hx,hxq⟩:=has_nat ((chk_zero h).2 j e)
  rw[if_pos e,hx,Int.toNat_natCast];exact hxq
 ·rw[if_neg e];exact zero_lt' F
theorem zc_sl {D:FD}{ao:Option Addr}{n:Nat}{z:Nat→Int}{w:World}(h:D.chk n z=0)(hS:SlZ ao n z w):Sl ao n (zc n z) w:=fun j hj=>by
 obtain⟨b,off,e,hc⟩:=hS j hj
 obtain⟨x,hx,hxq⟩:=has_nat ((chk_zero h).2 j hj)
 refine⟨b,off,e,?_⟩
 rw[hc]
 unfold zc
 rw[if_pos hj,hx,Int.toNat_natCast]
theorem chk2_zero {D:FD}{n m:Nat}{z y:Nat→Int}(h:D.chk2 n z m y=0):D.chk n z=0∧D.chk m y=0:=by
 unfold FD.chk2 at h
 by_cases e:D.chk n z=0
 ·rw[if_pos e]at h;exact⟨e,h⟩
 ·rw[if_neg e]at h;exact absurd h e
theorem trims_ok {D:FD}{ao:Option Addr}{n cap:Nat}{z:Nat→Int}{w:World}(h:D.chk n z=0)(ha:Arg ao n cap z w) :
  Calls Tryz.prog 123 #[.slice ao n cap] w fun e w'=>e = .returned (.slice ao (dgn (zc n z) n) cap)∧∃k,w'=w.drewN k:=
 trim_any (zc_sl h ha.sl) ha.le ha.cap
set_option maxHeartbeats 4000000 in
set_option maxRecDepth 100000 in
theorem pmul_any {D : FD} (hD : D ∈ fieldsL) {ao bo : Option Addr} {n m ca cb : Nat} {z y : Nat → Int} {w : World} (ha : Arg ao n ca z w) (hb : Arg bo m cb y w) :
   Calls Tryz.prog 109 #[.int .i64 D.q,.slice ao n ca,.slice bo m cb] w fun e w'=>Below w.heap.size w w' ∧
     ((D.chk2 n z m y=0∧dgn (zc n z) n+dgn (zc m y) m≤129∧∃v,e = .returned (.tuple #[v,.int .i64 0])∧OwnP w.heap.size v (dgn (pmul D n (zc n z) (zc m y)) (dgn (zc n z) n+dgn (zc m y) m)) (pmul D n (zc n z) (zc m y)) w')∨
      (D.chk2 n z m y=0∧129<dgn (zc n z) n+dgn (zc m y) m∧e = .returned (.tuple #[.slice none 0 0,.int .i64 4]))∨(D.chk2 n z m y≠0∧e = .returned (.tuple #[.slice none 0 0,.int .i64 (D.chk2 n z m y)]))):=by
 have HA:Hid (Arg ao n ca z w∧Arg bo m cb y w∧D∈fieldsL):=⟨ha,hb,hD⟩
 clear ha hb hD
 obtain⟨n',hn'⟩:∃n',n'=dgn (zc n z) n:=⟨_,rfl⟩
 obtain⟨m',hm'⟩:∃m',m'=dgn (zc m y) m:=⟨_,rfl⟩
 have hn1:n'≤n:=by rw[hn'];exact dgn_le _ _
 have hm1:m'≤m:=by rw[hm'];exact dgn_le _ _
 rw[←hn', ←hm']
 have HN0:Hid (n'=dgn (zc n z) n∧m'=dgn (zc m y) m):=⟨hn',hm'⟩
 clear hn' hm'
 go_enter Tryz.func109,Tryz.ntmps109
 go_wp2_with fail
 refine(over2_any HA.out.2.2 HA.out.1 HA.out.2.1).mono ?_
 rintro e w1 ⟨hb1,hr⟩
 rcases hr with⟨h0,F,T,f,rfl,hat,hF,hT⟩|⟨h0,rfl⟩
 · have HW:Hid (D.chk2 n z m y=0∧FAt F T D f w1∧Below w.heap.size w w1∧Arg ao n ca z w1∧Arg bo m cb y w1):=⟨h0,hat,hb1,HA.out.1.below hb1,HA.out.2.1.below hb1⟩
   clear h0 hat hF hT hb1
   have c0:=chk2_zero HW.out.1
   have hn128:=(chk_zero c0.1).1
   have hm128:=(chk_zero c0.2).1
   have HN:Hid (n'=dgn (zc n z) n∧m'=dgn (zc m y) m∧D.chk n z=0∧D.chk m y=0):=⟨HN0.out.1,HN0.out.2,c0⟩
   clear c0
   go_wp2_with fail
   refine(trims_ok HN.out.2.2.1 HW.out.2.2.2.1).mono ?_
   rintro e w' ⟨rfl,k1,rfl⟩
   rw[←HN.out.1]
   go_wp2_with fail
   refine(trims_ok HN.out.2.2.2 (w:=w1.drewN k1) ⟨HW.out.2.2.2.2.sl,HW.out.2.2.2.2.lt,HW.out.2.2.2.2.few,HW.out.2.2.2.2.nil,HW.out.2.2.2.2.le,HW.out.2.2.2.2.cap⟩).mono ?_
   rintro e w' ⟨rfl,k2,rfl⟩
   rw[←HN.out.2.1]
   by_cases hbig:129<n'+m'
   · go_wp2
     go_ret2
     exact⟨below_drewN2 HW.out.2.2.1 _,Or.inr (Or.inl ⟨HW.out.1,hbig,rfl⟩)⟩
   · have hF:=fld HA.out.2.2
     have HP : Hid (∀ d, Calls Tryz.prog 125 #[.pointer (some ⟨F, 0, none⟩), .slice ao n' ca, .slice bo m' cb] (w1.drewN d) fun e w' =>
         e = .returned (.slice (some ⟨w1.heap.size,0,none⟩) (dgn (pmul D n (zc n z) (zc m y)) (n'+m')) (n'+m'))∧Row w1.heap.size (n'+m') (pmul D n (zc n z) (zc m y)) w'∧Below w1.heap.size (w1.drewN d) w'):=by
       intro d
       have b1:Bd n' (zc n z):=by rw[HN.out.1];exact dgn_bd (zc_bd _ _)
       have b2:Bd m' (zc m y):=by rw[HN.out.2.1];exact dgn_bd (zc_bd _ _)
       have h:=product_any HA.out.2.2 (HW.out.2.1.drewN d) (ca:=ca) (cb:=cb) (show n'≤1000 by omega) (show m'≤1000 by omega) (zc_el hF HN.out.2.2.1) (zc_el hF HN.out.2.2.2) b2 ((zc_sl HN.out.2.2.1 HW.out.2.2.2.1.sl).less hn1) ((zc_sl HN.out.2.2.2 HW.out.2.2.2.2.sl).less hm1) HW.out.2.2.2.1.lt HW.out.2.2.2.2.lt
       rw[←pmul_to hF (zc m y) b1 hn1]at h
       exact h
     clear hF
     go_wp2_with fail
     refine(HP.out _).mono ?_
     rintro e w2 ⟨rfl,hrow,hb2⟩
     have hs:=HW.out.2.2.1.size
     have HR:Hid (Row w1.heap.size (n'+m') (pmul D n (zc n z) (zc m y)) w2∧Below w.heap.size w w2):=⟨hrow,bel_up (below_drewN2 HW.out.2.2.1 _) hb2⟩
     clear hrow hb2
     go_wp2
     go_ret2
     exact⟨HR.out.2,Or.inl ⟨HW.out.1,by omega,_,rfl,OwnP.of_row HR.out.1 (dgn_le _ _) (dgn_le _ _) (by omega) hs⟩⟩
 · have HW:Hid (D.chk2 n z m y≠0∧Below w.heap.size w w1):=⟨h0,hb1⟩
   obtain⟨e,he⟩:∃e,e=D.chk2 n z m y:=⟨_,rfl⟩
   rw[←he]at h0 ⊢
   have hz:(e != 0)=true:=by rw[bne_iff_ne];exact h0
   have HE:Hid (e=D.chk2 n z m y):=he
   clear h0 hb1 he
   go_wp2
   go_ret2
   exact⟨HW.out.2,Or.inr (Or.inr ⟨HW.out.1,by rw[←HE.out];rfl⟩)⟩
def FD.quo(D:FD)(a:Nat→Nat)(n:Nat)(b:Nat→Nat)(m:Nat):Nat→Nat:=divQ D b (dgn b m-1) (D.iv (b (dgn b m-1))) (n-(dgn b m-1)) a
def FD.rst(D:FD)(a:Nat→Nat)(n:Nat)(b:Nat→Nat)(m:Nat):Nat→Nat:=divR D b (dgn b m-1) (D.iv (b (dgn b m-1))) (n-(dgn b m-1)) a
set_option maxHeartbeats 4000000 in
set_option maxRecDepth 100000 in
theorem pdiv_any {D : FD} (hD : D ∈ fieldsL) {ao bo : Option Addr} {n m ca cb : Nat} {z y : Nat → Int} {w : World} (ha : Arg ao n ca z w) (hb : Arg bo m cb y w) :
   Calls Tryz.prog 108 #[.int .i64 D.q,.slice ao n ca,.slice bo m cb] w fun e w'=>Below w.heap.size w w' ∧
     ((D.chk2 n z m y=0∧dgn (zc m y) m≠0∧∃v u,e = .returned (.tuple #[v,u,.int .i64 0])∧OwnP w.heap.size v (dgn (D.quo (zc n z) n (zc m y) m) (n-(dgn (zc m y) m-1))) (D.quo (zc n z) n (zc m y) m) w'∧OwnP w.heap.size u (dgn (D.rst (zc n z) n (zc m y) m) n) (D.rst (zc n z) n (zc m y) m) w')∨
      (D.chk2 n z m y=0∧dgn (zc m y) m=0∧e = .returned (.tuple #[.slice none 0 0,.slice none 0 0,.int .i64 5]))∨(D.chk2 n z m y≠0∧e = .returned (.tuple #[.slice none 0 0,.slice none 0 0,.int .i64 (D.chk2 n z m y)]))):=by
 have HA:Hid (Arg ao n ca z w∧Arg bo m cb y w∧D∈fieldsL):=⟨ha,hb,hD⟩
 clear ha hb hD
 unfold FD.quo FD.rst
 obtain⟨m',hm'⟩:∃m',m'=dgn (zc m y) m:=⟨_,rfl⟩
 have hm1:m'≤m:=by rw[hm'];exact dgn_le _ _
 rw[←hm']
 have HN0:Hid (m'=dgn (zc m y) m):=hm'
 clear hm'
 go_enter Tryz.func108,Tryz.ntmps108
 go_wp2_with fail
 refine(over2_any HA.out.2.2 HA.out.1 HA.out.2.1).mono ?_
 rintro e w1 ⟨hb1,hr⟩
 rcases hr with⟨h0,F,T,f,rfl,hat,hF,hT⟩|⟨h0,rfl⟩
 · have HW:Hid (D.chk2 n z m y=0∧FAt F T D f w1∧Below w.heap.size w w1∧Arg ao n ca z w1∧Arg bo m cb y w1):=⟨h0,hat,hb1,HA.out.1.below hb1,HA.out.2.1.below hb1⟩
   clear h0 hat hF hT hb1
   have c0:=chk2_zero HW.out.1
   have hn128:=(chk_zero c0.1).1
   have hm128:=(chk_zero c0.2).1
   have HN:Hid (m'=dgn (zc m y) m∧D.chk n z=0∧D.chk m y=0):=⟨HN0.out,c0⟩
   clear c0
   go_wp2_with fail
   refine(trims_ok HN.out.2.2 HW.out.2.2.2.2).mono ?_
   rintro e w' ⟨rfl,k1,rfl⟩
   rw[←HN.out.1]
   by_cases hm0:m'=0
   · have hz:((m':Int) == 0)=true:=by rw[hm0];rfl
     have HZ:Hid (m'=0):=hm0
     clear hm0
     go_wp2
     go_ret3
     exact⟨below_drewN2 HW.out.2.2.1 _,Or.inr (Or.inl ⟨HW.out.1,HZ.out,rfl⟩)⟩
   · obtain⟨l,rfl⟩:∃l,m'=l+1:=⟨m'-1,by omega⟩
     have hF:=fld HA.out.2.2
     have HP:=fun d=>divide_any HA.out.2.2 (HW.out.2.1.drewN d) (ca:=ca) (cb:=cb) (show n≤1000 by omega) (show l<1000 by omega) (zc_el hF HN.out.2.1) (zc_el hF HN.out.2.2) (zc_bd _ _) (by rw[HN.out.1];exact dgn_bd (zc_bd _ _)) (by
       have h:=dgn_top (zc m y) m (by rw[←HN.out.1];omega)
       rw[←HN.out.1]at h;exact h) (zc_sl HN.out.2.1 HW.out.2.2.2.1.sl) ((zc_sl HN.out.2.2 HW.out.2.2.2.2.sl).less hm1) HW.out.2.2.2.1.lt HW.out.2.2.2.2.lt HW.out.2.2.2.1.nil
     clear hF
     go_wp2_with fail
     refine(HP _).mono ?_
     rintro e w2 ⟨vq,vr,rfl,hq,hr,hb2⟩
     have hs:=HW.out.2.2.1.size
     have HR:Hid (OwnP w.heap.size vq (dgn (divQ D (zc m y) l (D.iv (zc m y l)) (n-l) (zc n z)) (n-l)) (divQ D (zc m y) l (D.iv (zc m y l)) (n-l) (zc n z)) w2∧OwnP w.heap.size vr (dgn (divR D (zc m y) l (D.iv (zc m y l)) (n-l) (zc n z)) n) (divR D (zc m y) l (D.iv (zc m y l)) (n-l) (zc n z)) w2∧Below w.heap.size w w2):=⟨hq.mono hs,hr.mono hs,bel_up (below_drewN2 HW.out.2.2.1 _) hb2⟩
     clear hq hr hb2 HP
     go_wp2
     go_ret3
     exact⟨HR.out.2.2,Or.inl ⟨HW.out.1,by omega,vq,vr,rfl,HR.out.1,HR.out.2.1⟩⟩
 · have HW:Hid (D.chk2 n z m y≠0∧Below w.heap.size w w1):=⟨h0,hb1⟩
   obtain⟨e,he⟩:∃e,e=D.chk2 n z m y:=⟨_,rfl⟩
   rw[←he]at h0 ⊢
   have hz:(e != 0)=true:=by rw[bne_iff_ne];exact h0
   have HE:Hid (e=D.chk2 n z m y):=he
   clear h0 hb1 he
   go_wp2
   go_ret3
   exact⟨HW.out.2,Or.inr (Or.inr ⟨HW.out.1,by rw[←HE.out];rfl⟩)⟩
structure PA(D:FD)(ao:Option Addr)(n cap:Nat)(c:Nat→Nat)(w:World):Prop where
 sl:Sl ao n c w
 lt:LtB ao w.heap.size
 nil:ao=none→cap=0
 el:El D c
 trd:Trd n c
theorem PA.below {D:FD}{ao:Option Addr}{n cap:Nat}{c:Nat→Nat}{w w':World}(h:PA D ao n cap c w)(hb:Below w.heap.size w w'):PA D ao n cap c w':=
 ⟨h.sl.below hb h.lt,h.lt.mono hb.size,h.nil,h.el,h.trd⟩
theorem PA.drewN {D:FD}{ao:Option Addr}{n cap:Nat}{c:Nat→Nat}{w:World}(h:PA D ao n cap c w)(k:Nat):PA D ao n cap c (w.drewN k):=⟨h.sl,h.lt,h.nil,h.el,h.trd⟩
theorem OwnP.pa {D:FD}{base n:Nat}{v:Value}{c:Nat→Nat}{w:World}(h:OwnP base v n c w)(he:El D c)(ht:Trd n c):∃ao cap,v = .slice ao n cap∧PA D ao n cap c w:=by
 obtain⟨ao,cap,hv,_,_,_,hl,hz,hs⟩:=h.open
 exact⟨ao,cap,hv,hs,hl,hz,he,ht⟩
def Twice(c:Nat→Nat)(n:Nat):Prop:=∃i j,i<j∧j<n∧c i=c j
set_option maxHeartbeats 2000000 in
set_option maxRecDepth 100000 in
theorem hasTwice_any {ao:Option Addr}{n cap:Nat}{c:Nat→Nat}{w:World}(h:Sl ao n c w)(hn:n≤1000)(hl:LtB ao w.heap.size)(hc:∀j, c j<64) :
  Calls Tryz.prog 121 #[.slice ao n cap] w fun e w'=>(∃b,e = .returned (.bool b)∧(b=true↔Twice c n))∧Below w.heap.size w w':=by
 have HS:Hid (Sl ao n c w∧LtB ao w.heap.size∧∀j,c j<64):=⟨h,hl,hc⟩
 clear h hl hc
 go_enter Tryz.func121,Tryz.ntmps121
 go_wp2
 change Code.wp _ _ _ _ (w.alloc (.cells (Array.replicate 64 (.bool false)) 167))
 obtain⟨w1,hw1⟩:∃w1:World,w1=w.alloc (.cells (Array.replicate 64 (.bool false)) 167):=⟨_,rfl⟩
 have HR1:Hid (RowF w.heap.size 64 167 (fun _=> .bool false) w1∧Below w.heap.size w w1):=by
  rw[hw1]
  refine⟨⟨_,two_new _,by simp,fun o ho=>by simp[ho]⟩,(Below.refl _ _).alloc (Nat.le_refl _) _⟩
 rw[←hw1]
 clear hw1
 go_loopw [8] (fun i wr=>∃(r:Nat) (f:Nat→Value),r≤n∧i = .int .i64 r∧RowF w.heap.size 64 167 f wr∧(∀x,x<64→f x = .bool (decide (∃i,i<r∧c i=x)))∧¬Twice c r∧Below w.heap.size w wr) (fun i _=>n-(intOf i).toNat)
 case atStart=>exact⟨0,_,by omega,rfl,HR1.out.1,fun x _=>by rw[decide_eq_false (by rintro⟨i,hi,_⟩;omega)],by rintro⟨i,j,h1,h2,_⟩;omega,HR1.out.2⟩
 case round=>
  obtain⟨r,f,hr,rfl,hrow,hf,hnt,hbel⟩:=hrel
  have HG:Hid (RowF w.heap.size 64 167 f wr∧(∀x,x<64→f x = .bool (decide (∃i,i<r∧c i=x)))∧¬Twice c r∧Below w.heap.size w wr):=⟨hrow,hf,hnt,hbel⟩
  clear hrow hf hnt hbel
  by_cases hlt:r<n
  ·obtain⟨b,off,rfl,hcx⟩:=(HS.out.1.below HG.out.2.2.2 HS.out.2.1) r hlt
   obtain⟨x,hx⟩:∃x,x=c r:=⟨_,rfl⟩
   have hx64:x<64:=by rw[hx];exact HS.out.2.2 r
   rw[←hx]at hcx
   have hfr:=HG.out.1.free x
   by_cases hseen:∃i,i<r∧c i=x
   ·have hcs:wr.cell? ⟨w.heap.size,x,none⟩=some (.bool true):=by rw[HG.out.1.cell x (by omega),HG.out.2.1 x hx64,decide_eq_true hseen]
    have HT:Hid (Twice c n):=by
     obtain⟨i,hi,e⟩:=hseen
     exact⟨i,r,hi,hlt,by rw[e,hx]⟩
    clear hseen hx
    go_wp2
    go_ret
    exact⟨⟨true,rfl,fun _=>HT.out,fun _=>rfl⟩,HG.out.2.2.2⟩
   ·have hcs:wr.cell? ⟨w.heap.size,x,none⟩=some (.bool false):=by rw[HG.out.1.cell x (by omega),HG.out.2.1 x hx64,decide_eq_false hseen]
    have HN:Hid (¬Twice c (r+1)∧∀y,y<64→upd f x (.bool true) y = .bool (decide (∃i,i<r+1∧c i=y))):=by
     refine⟨?_,fun y hy=>?_⟩
     ·rintro⟨i,j,h1,h2,e⟩
      by_cases ej:j=r
      ·exact hseen ⟨i,by omega,by rw[e,ej,hx]⟩
      ·exact HG.out.2.2.1 ⟨i,j,h1,by omega,e⟩
     ·by_cases ey:y=x
      ·rw[ey,upd_at,decide_eq_true ⟨r,by omega,hx.symm⟩]
      ·rw[upd_ne _ _ _ ey,HG.out.2.1 y hy]
       congr 1
       rw[decide_eq_decide]
       constructor
       ·rintro⟨i,hi,e⟩;exact⟨i,by omega,e⟩
       ·rintro⟨i,hi,e⟩
        by_cases ei:i=r
        ·exact absurd (by rw[←e,ei,hx]) ey
        ·exact⟨i,by omega,e⟩
    clear hseen hx
    go_wp2
    go_roundw
    case rel=>exact⟨r+1,_,by omega,by go_num,HG.out.1.store x _,HN.out.2,HN.out.1,HG.out.2.2.2.setCell (by simp) _⟩
    case measure=>simp[intOf];omega
  ·have HT:Hid (¬Twice c n):=by have h:=HG.out.2.2.1;rw[show r=n from by omega]at h;exact h
   go_wp2
   go_ret
   exact⟨⟨false,rfl,fun e=>(by cases e),fun e=>absurd e HT.out⟩,HG.out.2.2.2⟩
end
section
open Go Go.Sort Go.RowKit
end
section
open Go.RowKit Go.Sort
end
section
open Go.RowKit
end
end Go.Proofs.YtedifobeggabnaaGreat
