/- Texts of ours, one behind the other: ZK2 ZK3 ZK4 ZL4. -/
import Derived.Test.YtedifobeggabnaaGreatCbZK1
import Derived.Test.YtedifobeggabnaaGreatCbL10
import Derived.Test.YtedifobeggabnaaGreatCbZL0
import Derived.Test.YtedifobeggabnaaGreatCbZL2
import Derived.Test.YtedifobeggabnaaGreatCbQ1
import Derived.Test.YtedifobeggabnaaGreatCbZL3
import Derived.Test.YtedifobeggabnaaGreatCbZJ1
namespace Go.Proofs.YtedifobeggabnaaGreat
section
open Go.RowKit Go.Sort
def tlC(f:Func):Nat→Code
 | 0=>match f.body with|some c=>c|_=> .skip
 |n+1=>match tlC f n with | .seq _ b=>b|_=> .skip
def TlA(ao:Option Addr)(n0 ca:Nat)(D:FD)(N:Nat)(k many h1 h2:Int)(a:Act):Prop:=∃v29 v30 v31 v32 v33 v34 v35 v36 v37 v38 v39 v40:Value,a=⟨#[.slice ao n0 ca,.int .i64 (D.q:Nat),.int .i64 (N:Nat),.int .i64 k,.int .i64 many,.int .i64 h1,.int .i64 h2,undef,undef,undef,undef,undef,undef,undef,.bool false,undef,undef,undef,undef,undef,undef,undef,undef,undef,undef,undef,undef,undef,undef,v29,v30,v31,v32,v33,v34,v35,v36,v37,v38,v39,v40,undef,undef,undef,undef,undef,undef,undef,undef,undef,undef,undef,undef,undef,undef,undef,undef,undef,undef,undef,undef,undef,undef,undef,undef,undef,undef,undef,undef,undef,undef,undef,undef,undef,undef,undef,undef,undef,undef,undef,undef,undef,undef,undef,undef,undef,undef,undef,undef,undef,undef,undef,undef,undef,undef,undef,undef,undef,undef,undef,undef,undef,undef,undef,undef,undef,undef,undef,undef,undef,undef,undef,undef,undef,undef,undef,undef,undef,undef,undef,undef,undef,undef,undef,undef,undef,undef,undef,undef,undef,undef,undef,undef,undef,undef,undef,undef,undef,undef,undef,undef,undef,undef,undef,undef,undef,undef,undef,undef,undef,undef,undef,undef,undef,undef,undef,undef,undef,undef,undef,undef,undef,undef,undef,undef,undef,undef,undef,undef,undef,undef,undef,undef,undef,undef,undef,undef,undef,undef,undef,undef,undef,undef,undef,undef,undef,undef,undef,undef,undef,undef,undef,undef,undef,undef,undef,undef,undef,undef,undef,undef,undef,undef,undef,undef,undef,undef,undef,undef,undef,undef],[]⟩
set_option maxHeartbeats 4000000 in
set_option maxRecDepth 100000 in
theorem tl_preA {ao:Option Addr}{n0 ca:Nat}{z:Nat→Int}(q n k many h1 h2:Int)(hq:I64 q)(hn:I64 n):∃(D:FD) (N:Nat), D∈fieldsL∧1≤N∧N≤9∧N≤D.q∧∀w:World, Arg ao n0 ca z w→n0≤256 →
  wpN Tryz.prog 5 (tlC Tryz.f5 0) (fun a w'=>TlA ao n0 ca D N k many h1 h2 a∧Below w.heap.size w w') ⟨#[.slice ao n0 ca,.int .i64 q,.int .i64 n,.int .i64 k,.int .i64 many,.int .i64 h1,.int .i64 h2,undef,undef,undef,undef,undef,undef,undef,undef,undef,undef,undef,undef,undef,undef,undef,undef,undef,undef,undef,undef,undef,undef,undef,undef,undef,undef,undef,undef,undef,undef,undef,undef,undef,undef,undef,undef,undef,undef,undef,undef,undef,undef,undef,undef,undef,undef,undef,undef,undef,undef,undef,undef,undef,undef,undef,undef,undef,undef,undef,undef,undef,undef,undef,undef,undef,undef,undef,undef,undef,undef,undef,undef,undef,undef,undef,undef,undef,undef,undef,undef,undef,undef,undef,undef,undef,undef,undef,undef,undef,undef,undef,undef,undef,undef,undef,undef,undef,undef,undef,undef,undef,undef,undef,undef,undef,undef,undef,undef,undef,undef,undef,undef,undef,undef,undef,undef,undef,undef,undef,undef,undef,undef,undef,undef,undef,undef,undef,undef,undef,undef,undef,undef,undef,undef,undef,undef,undef,undef,undef,undef,undef,undef,undef,undef,undef,undef,undef,undef,undef,undef,undef,undef,undef,undef,undef,undef,undef,undef,undef,undef,undef,undef,undef,undef,undef,undef,undef,undef,undef,undef,undef,undef,undef,undef,undef,undef,undef,undef,undef,undef,undef,undef,undef,undef,undef,undef,undef,undef,undef,undef,undef,undef,undef,undef,undef,undef,undef,undef,undef,undef,undef,undef,undef,undef],[]⟩ w:=by
 obtain⟨D,hD,hDq⟩:=sizeOf_field q
 obtain⟨N0,hN0,hN1⟩:=pick_in (m:=n) (k:=9) (by omega)
 have h2q:=(fld hD).q2
 obtain⟨N1,hNe⟩:∃N1,N1=1+N0:=⟨_,rfl⟩
 refine⟨D,if D.q<N1 then D.q else N1,hD,by split<;>omega,by split<;>omega,by split<;>omega,fun w ha hn0=>?_⟩
 have HS:Hid (∀w:World,Calls Tryz.prog 14 #[.int .i64 q] w fun e w'=>e = .returned (.int .i64 D.q)∧Below w.heap.size w w'):=fun w=>by rw[←hDq];exact sizeOf_any q w hq.1 hq.2
 have HP1:Hid (∀w:World,Calls Tryz.prog 15 #[.int .i64 n,.int .i64 9] w fun e w'=>e = .returned (.int .i64 N0)∧w'=w):=fun w=>by rw[←hN0];exact pick_any n 9 w hn.1 hn.2 (by omega) (by omega)
 have hwN:IntKind.i64.wrap (1+(N0:Int))=(N1:Int):=wrap_to (by omega) (by omega)
 have hnb:¬(256:Int)<(n0:Int):=by omega
 clear hDq hN0 hNe
 simp only[tlC,Tryz.f5,wpN]
 go_wp2_with fail
 refine(HS.out w).mono ?_
 rintro e w1 ⟨rfl,hb1⟩
 have HB1:Hid (Below w.heap.size w w1):=hb1
 clear hb1
 go_wp2_with fail
 refine(HP1.out w1).mono ?_
 rintro e w' ⟨rfl,hw⟩
 have hw:=hw.symm
 subst hw
 by_cases hNq:D.q<N1
 ·have hNi:((D.q:Nat):Int)<(N1:Int):=by omega
  go_wp2_with fail
  exact⟨⟨_,_,_,_,_,_,_,_,_,_,_,_,rfl⟩,HB1.out⟩
 ·have hNi:¬((D.q:Nat):Int)<(N1:Int):=by omega
  go_wp2_with fail
  exact⟨⟨_,_,_,_,_,_,_,_,_,_,_,_,rfl⟩,HB1.out⟩
def CnB(l:List (Nat×Nat×Nat))(T i j:Nat):Prop:=∀a,cnA l a=if a<i then T else if a=i then j else 0
theorem CnB.nil(T:Nat):CnB [] T 0 0:=fun a=>by simp[cnA,ct]
theorem CnB.snoc {l:List (Nat×Nat×Nat)}{T i j:Nat}(h:CnB l T i j)(p:Nat×Nat):CnB (l++[(i,p)]) T i (j+1):=fun a=>by
 rw[cnA_snoc,h a]
 show(if a<i then T else if a=i then j else 0)+(if i=a then 1 else 0)=_
 by_cases e:a=i
 ·subst e;simp
 ·have e2:¬i=a:=fun c=>e c.symm
  rw[if_neg e2,if_neg e,if_neg e];simp
theorem CnB.next {l:List (Nat×Nat×Nat)}{T i:Nat}(h:CnB l T i T):CnB l T (i+1) 0:=fun a=>by
 rw[h a]
 by_cases e:a<i
 ·rw[if_pos e,if_pos (by omega)]
 ·rw[if_neg e]
  by_cases e2:a=i
  ·rw[if_pos e2,if_pos (by omega)]
  ·rw[if_neg e2,if_neg (by omega)];simp
theorem NzB.snoc {N n q:Nat}{l:List (Nat×Nat×Nat)}(h:NzB N n q l){p:Nat×Nat×Nat}(hp:p.1<N∧p.2.1<n∧p.2.2<q):NzB N n q (l++[p]):=fun x hx=>by
 rcases List.mem_append.1 hx with hx|hx
 ·exact h x hx
 ·have:x=p:=by simpa using hx
  subst this;exact hp
theorem OwnN.kept {base:Nat}{v:Value}{l:List (Nat×Nat×Nat)}{w w':World}{row:Option Nat}(h:OwnN base v l w)(hg:w.grownBy w' row)(hne:v.ownBlock=none∨v.ownBlock≠row):OwnN base v l w':=World.ownsRow.kept h hg hne
theorem OwnV.kept2 {base:Nat}{v:Value}{l:List Value}{w w':World}{row:Option Nat}(h:OwnV base v l w)(hg:w.grownBy w' row)(hne:v.ownBlock=none∨v.ownBlock≠row):OwnV base v l w':=World.ownsRow.kept h hg hne
theorem OwnN.apartV {base base':Nat}{u v:Value}{l:List (Nat×Nat×Nat)}{l':List Value}{w:World}(h:OwnN base u l w)(h':OwnV base' v l' w):u.ownBlock=none∨u.ownBlock≠v.ownBlock:=by
 rcases h.2 with⟨h1,_⟩|⟨g,cap,cur,hv,_,hh,_⟩
 ·left;rw[h1];rfl
 ·right
  rcases h'.2 with⟨h2,_⟩|⟨g',cap',cur',hv',_,hh',_⟩
  ·rw[hv,h2];intro e;cases e
  ·rw[hv,hv']
   intro e
   have e:some g=some g':=e
   cases e
   rw[hh]at hh'
   simp at hh'
theorem OwnV.apartN {base base':Nat}{u v:Value}{l:List (Nat×Nat×Nat)}{l':List Value}{w:World}(h':OwnV base' v l' w)(h:OwnN base u l w):v.ownBlock=none∨v.ownBlock≠u.ownBlock:=by
 rcases h.apartV h' with e|e
 ·by_cases c:v.ownBlock=none
  ·exact Or.inl c
  ·exact Or.inr fun d=>c (d.trans e)
 ·exact Or.inr e.symm
theorem OwnI.apartN {base base':Nat}{u v:Value}{l:List Int}{l':List (Nat×Nat×Nat)}{w:World}(h:OwnI base u l w)(h':OwnN base' v l' w):u.ownBlock=none∨u.ownBlock≠v.ownBlock:=by
 rcases h.2 with⟨h1,_⟩|⟨g,cap,cur,hv,_,hh,_⟩
 ·left;rw[h1];rfl
 ·right
  rcases h'.2 with⟨h2,_⟩|⟨g',cap',cur',hv',_,hh',_⟩
  ·rw[hv,h2];intro e;cases e
  ·rw[hv,hv']
   intro e
   have e:some g=some g':=e
   cases e
   rw[hh]at hh'
   simp at hh'
structure TlM(B gx:Nat)(D:FD)(N K M T i r j:Nat)(c:Nat→Nat)(vs:Nat→Value)(Z:Nat→Nat→Int)(l:List (Nat×Nat×Nat))(mv lv:Value)(w:World):Prop where
 xs:RowE gx D.q c w
 gx:gx<B
 m:MkS B D.q K r mv vs Z w
 nz:OwnN B lv l w
 cn:CnB l T i j
 bd:NzB M N D.q l
 len:l.length=i*T+j
theorem TlM.below {B gx:Nat}{D:FD}{N K M T i r j:Nat}{c:Nat→Nat}{vs:Nat→Value}{Z:Nat→Nat→Int}{l:List (Nat×Nat×Nat)}{mv lv:Value}{w w':World}(h:TlM B gx D N K M T i r j c vs Z l mv lv w)(hb:Below w.heap.size w w'):TlM B gx D N K M T i r j c vs Z l mv lv w':=
 ⟨h.xs.below hb h.xs.lt,h.gx,h.m.below hb,h.nz.below hb (Nat.le_refl _),h.cn,h.bd,h.len⟩
theorem TlM.next {B gx:Nat}{D:FD}{N K M T i:Nat}{c:Nat→Nat}{vs:Nat→Value}{Z:Nat→Nat→Int}{l:List (Nat×Nat×Nat)}{mv lv:Value}{w:World}(h:TlM B gx D N K M T i (i+1) T c vs Z l mv lv w):TlM B gx D N K M T (i+1) (i+1) 0 c vs Z l mv lv w:=
 ⟨h.xs,h.gx,h.m,h.nz,h.cn.next,h.bd,by rw[h.len,Nat.succ_mul];rfl⟩
theorem TlM.push {B gx:Nat}{D:FD}{N K M T i r j:Nat}{c:Nat→Nat}{vs:Nat→Value}{Z:Nat→Nat→Int}{l:List (Nat×Nat×Nat)}{mv lv lv':Value}{w w':World}(h:TlM B gx D N K M T i r j c vs Z l mv lv w)(p:Nat×Nat)(hi:i<M)(hp:p.1<N∧p.2<D.q)(ho:OwnN B lv' (l++[(i,p)]) w')(hg:w.grownBy w' lv.ownBlock):TlM B gx D N K M T i r (j+1) c vs Z (l++[(i,p)]) mv lv' w':=by
 refine⟨h.xs.other (hg.block gx h.xs.lt fun e=>?_),h.gx,⟨h.m.own.kept2 hg (h.m.own.apartN h.nz),fun a ha=>(h.m.row a ha).kept hg ((h.m.row a ha).apartN h.nz),h.m.blw⟩,ho,h.cn.snoc p,h.bd.snoc ⟨hi,hp⟩,by rw[List.length_append,h.len];rfl⟩
 have:=(World.ownsRow.lt h.nz gx e.symm).1
 have:=h.gx
 omega
def TlB(ao:Option Addr)(n0 ca:Nat)(D:FD)(N K M:Nat)(h1 h2:Int)(gx:Nat)(mv lv:Value)(a:Act):Prop:=∃v19 v29 v30 v31 v32 v33 v34 v35 v36 v37 v38 v39 v40 v41 v42 v43 v44 v45 v46 v47 v48 v49 v50 v51 v52 v53 v54 v55 v56 v57 v58 v59 v60 v61 v62 v63 v64 v65 v66 v67 v68 v69 v70 v71 v72 v73 v74 v75 v76 v77 v78 v79 v80 v81 v82 v83 v84 v85 v86 v87 v88 v89 v90 v91 v92 v93 v94 v95:Value,a=⟨#[.slice ao n0 ca,.int .i64 (D.q:Nat),.int .i64 (N:Nat),.int .i64 (K:Nat),.int .i64 (M:Nat),.int .i64 h1,.int .i64 h2,undef,undef,undef,undef,undef,undef,undef,.bool false,.slice (some ⟨gx,0,none⟩) N D.q,mv,lv,.int .i64 (M:Nat),v19,undef,undef,undef,undef,undef,undef,undef,undef,undef,v29,v30,v31,v32,v33,v34,v35,v36,v37,v38,v39,v40,v41,v42,v43,v44,v45,v46,v47,v48,v49,v50,v51,v52,v53,v54,v55,v56,v57,v58,v59,v60,v61,v62,v63,v64,v65,v66,v67,v68,v69,v70,v71,v72,v73,v74,v75,v76,v77,v78,v79,v80,v81,v82,v83,v84,v85,v86,v87,v88,v89,v90,v91,v92,v93,v94,v95,undef,undef,undef,undef,undef,undef,undef,undef,undef,undef,undef,undef,undef,undef,undef,undef,undef,undef,undef,undef,undef,undef,undef,undef,undef,undef,undef,undef,undef,undef,undef,undef,undef,undef,undef,undef,undef,undef,undef,undef,undef,undef,undef,undef,undef,undef,undef,undef,undef,undef,undef,undef,undef,undef,undef,undef,undef,undef,undef,undef,undef,undef,undef,undef,undef,undef,undef,undef,undef,undef,undef,undef,undef,undef,undef,undef,undef,undef,undef,undef,undef,undef,undef,undef,undef,undef,undef,undef,undef,undef,undef,undef,undef,undef,undef,undef,undef,undef,undef,undef,undef,undef,undef,undef,undef,undef,undef,undef,undef,undef,undef,undef,undef,undef,undef],[]⟩
set_option maxHeartbeats 16000000 in
set_option maxRecDepth 100000 in
theorem tl_preB {ao:Option Addr}{n0 ca:Nat}{z:Nat→Int}{D:FD}(hD:D∈fieldsL){N:Nat}(hN1:1≤N)(hN9:N≤9)(hNq:N≤D.q)(k many h1 h2:Int)(hk:I64 k)(hm:I64 many):∃(K M:Nat), 1≤K∧K≤N∧M≤8∧∀(w:World) (a:Act), Arg ao n0 ca z w→n0≤256→TlA ao n0 ca D N k many h1 h2 a →
  wpN Tryz.prog 6 (tlC Tryz.f5 5) (fun a w'=>∃B gx c vs Z l mv lv,TlB ao n0 ca D N K M h1 h2 gx mv lv a∧TlM B gx D N K M ((N-K) / 2) M M 0 c vs Z l mv lv w'∧Perm' D.q c∧w.heap.size≤gx∧Below w.heap.size w w') a w:=by
 obtain⟨K0,hK0,hK1⟩:=pick_in (m:=k) (k:=N) (by omega)
 obtain⟨M,hM0,hM1⟩:=pick_in (m:=many) (k:=9) (by omega)
 obtain⟨K,hKe⟩:∃K,K=1+K0:=⟨_,rfl⟩
 have h2q:=(fld hD).q2
 have h64:=(fld hD).q64
 refine⟨K,M,by omega,by omega,by omega,fun w a ha hn0 hA=>?_⟩
 obtain⟨T,hT⟩:∃T,T=(N-K) / 2:=⟨_,rfl⟩
 obtain⟨NK,hNK⟩:∃NK,NK=N-K:=⟨_,rfl⟩
 rw[←hT]
 obtain⟨v29,v30,v31,v32,v33,v34,v35,v36,v37,v38,v39,v40,rfl⟩:=hA
 have HA:Hid (Arg ao n0 ca z w):=ha
 have HP:Hid (∀(x:Int) (k:Nat),I64 x→1≤k→k≤1000→∃M:Nat,M<k∧∀w:World,Calls Tryz.prog 15 #[.int .i64 x,.int .i64 k] w fun e w'=>e = .returned (.int .i64 M)∧w'=w):=fun x k hx h1 h2=>by
  obtain⟨M,hM,hMk⟩:=pick_in (m:=x) (k:=k) (by omega)
  exact⟨M,hMk,fun w=>by rw[←hM];exact pick_any x k w hx.1 hx.2 (by omega) (by omega)⟩
 have HP1:Hid (∀w:World,Calls Tryz.prog 15 #[.int .i64 k,.int .i64 N] w fun e w'=>e = .returned (.int .i64 K0)∧w'=w):=fun w=>by rw[←hK0];exact pick_any k N w hk.1 hk.2 (by omega) (by omega)
 have HP2:Hid (∀w:World,Calls Tryz.prog 15 #[.int .i64 many,.int .i64 9] w fun e w'=>e = .returned (.int .i64 M)∧w'=w):=fun w=>by rw[←hM0];exact pick_any many 9 w hm.1 hm.2 (by omega) (by omega)
 have HPl:Hid (∀w2,Below w.heap.size w w2→Calls Tryz.prog 18 #[.slice ao n0 ca,.int .i64 D.q,.int .i64 N] w2 fun e w'=>∃g c,e = .returned (.slice (some ⟨g,0,none⟩) N D.q)∧w2.heap.size≤g∧RowE g D.q c w'∧Perm' D.q c∧Below w2.heap.size w2 w'):=fun w2 hb2=>places_anyE (HA.out.below hb2) (by omega) D.q N (by omega) (by omega) hNq
 have HR:Hid (∀(j:Nat) (wx:World),j≤100→Below w.heap.size w wx→Calls Tryz.prog 17 #[.slice ao n0 ca,.int .i64 (j:Nat)] wx fun e w'=>(∃x,e = .returned (.int .i64 x)∧I64 x)∧∃k,w'=wx.drewN k):=fun j wx hj hx=>raw_any (HA.out.below hx) (by omega) j (by omega)
 have hwK:IntKind.i64.wrap (1+(K0:Int))=(K:Int):=wrap_to (by omega) (by omega)
 have HT:Hid (T=(N-K) / 2∧NK=N-K):=⟨hT,hNK⟩
 have hKb:1≤K∧K≤N∧K≤9∧T≤4∧NK≤9:=by omega
 have hqT:Int.tdiv ((N:Int)-(K:Int)) 2=(T:Int):=by
  rw[Int.tdiv_eq_ediv_of_nonneg (by omega)];omega
 clear hK0 hM0 ha hKe hT hNK
 simp only[tlC,Tryz.f5,wpN]
 go_wp2_with fail
 refine(HP1.out w).mono ?_
 rintro e w' ⟨rfl,hw⟩
 have hw:=hw.symm
 subst hw
 go_wp2_with fail
 refine(HPl.out w (Below.refl _ _)).mono ?_
 rintro e w2 ⟨gx,c,rfl,hgx,hrow2,hperm,hb2⟩
 have H2:Hid (Below w.heap.size w w2∧w.heap.size≤gx∧RowE gx D.q c w2∧Perm' D.q c):=⟨hb2,hgx,hrow2,hperm⟩
 clear hgx hrow2 hperm hb2
 go_wp2_with fail
 refine(HP2.out w2).mono ?_
 rintro e w' ⟨rfl,hw⟩
 have hw:=hw.symm
 subst hw
 go_wp2_with fail
 have HM0:Hid (TlM w2.heap.size gx D N K M T 0 0 0 c (fun _=>undef) (fun _ _=>0) [] (.slice none 0 0) (.slice none 0 0) w2):=⟨H2.out.2.2.1,H2.out.2.2.1.lt,⟨OwnV.nil _ _,fun j hj=>absurd hj (by omega),fun j hj=>absurd hj (by omega)⟩,OwnN.nil _ _,CnB.nil T,fun p hp=>by simp at hp,by simp⟩
 go_loopw [16,17,18] (fun v16 v17 vi wr=>∃(i:Nat) (vs:Nat→Value) (Z:Nat→Nat→Int) (l:List (Nat×Nat×Nat)),i≤M∧vi = .int .i64 i∧Hid (TlM w2.heap.size gx D N K M T i i 0 c vs Z l v16 v17 wr∧Below w2.heap.size w2 wr)) (fun _ _ vi _=>M-(intOf vi).toNat)
 case atStart=>exact⟨0,fun _=>undef,fun _ _=>0,[],by omega,rfl,HM0.out,Below.refl _ _⟩
 case round=>
  obtain⟨i,vs,Z,l,hi,rfl,HG⟩:=hrel
  rename World=>wA
  by_cases hlt:i<M
  ·have hib:(i:Int)<(M:Int):=by omega
   obtain⟨ik,hik⟩:∃ik,ik=i*K:=⟨_,rfl⟩
   have hik2:ik≤72:=by
    rw[hik]
    have:=Nat.mul_le_mul (show i≤8 by omega) (show K≤9 by omega)
    omega
   have hw1:IntKind.i64.wrap ((i:Int)*(K:Int))=(ik:Int):=wrap_to (by rw[hik];simp) (by omega)
   have HN:Hid (Calls Tryz.prog 16 #[.slice ao n0 ca,.int .i64 ik,.int .i64 D.q,.int .i64 K] wA fun e w'=>∃bo cb y,e = .returned (.slice bo K cb)∧OwnI wA.heap.size (.slice bo K cb) (zl K y) w'∧Blw D.q K y∧Below wA.heap.size wA w'):=by
    refine(numbers_any (HA.out.below (bel_up' H2.out.1 HG.out.2)) (by omega) ik D.q K (by omega) (by omega) (by omega) (by omega)).mono ?_
    rintro e w' ⟨v,y,rfl,ho,hbl,hb⟩
    obtain⟨bo,cb,rfl,_⟩:=ho.argL
    exact⟨bo,cb,y,rfl,ho,hbl,hb⟩
   clear hik
   go_wp2_with fail
   refine HN.out.mono ?_
   rintro e w3 ⟨bo,cb,y,rfl,ho3,hbl3,hb3⟩
   have hs2:=hb3.size
   have hsA:=HG.out.2.size
   have H3:Hid (TlM w2.heap.size gx D N K M T i i 0 c vs Z l u16 u17 w3∧OwnI w2.heap.size (.slice bo K cb) (zl K y) w3∧Blw D.q K y∧Below w2.heap.size w2 w3):=⟨HG.out.1.below hb3,ho3.mono hsA,hbl3,bel_up' HG.out.2 hb3⟩
   have hll:(vl i vs).length≤1000000:=by rw[vl_len];omega
   clear ho3 hbl3 hb3 HN
   go_wp2_with (at_builtin;refine append_sl rfl _ _ rfl w2.heap.size u16 (vl i vs) rfl (H3.out.1.m.own.below ((Below.refl _ _).alloc (Nat.le_refl _) _) (Nat.le_refl _)) ⟨w3.heap.size,0,none⟩ 1 (.slice bo K cb) rfl rfl (by rw[cell_of_row _ _ _ _ _ (0,0) (two_new _)];rfl) hll (by simp;omega) ?_;intro v' w6 hown6 hg6)
   have hal:Below w3.heap.size w3 (w3.alloc (.cells #[.slice bo K cb] 22)):=(Below.refl _ _).alloc (Nat.le_refl _) _
   have HI:Hid (TlM w2.heap.size gx D N K M T i (i+1) 0 c (fun j=>if j=i then .slice bo K cb else vs j) (fun j=>if j=i then y else Z j) l v' u17 w6∧Below w2.heap.size w2 w6):=by
    have ho:=H3.out.1.below hal
    have hm:=ho.m.push (H3.out.2.1.below hal (fun k hk=>(H3.out.2.1.lt k hk).2)) H3.out.2.2.1 hown6 hg6
    exact⟨⟨ho.xs.other (hg6.block gx ho.xs.lt (fun e=>(ho.xs.apart ho.m.own) e)),ho.gx,hm,ho.nz.kept hg6 (ho.nz.apartV ho.m.own),ho.cn,ho.bd,ho.len⟩,(bel_up' H3.out.2.2.2 hal).grown hg6 (by simp;omega) (fun k hk=>ho.m.own.open_ge k hk)⟩
   clear hown6 hg6 hal H3
   obtain⟨vs1,hvs1⟩:∃f:Nat→Value,f=(fun j=>if j=i then .slice bo K cb else vs j):=⟨_,rfl⟩
   obtain⟨Z1,hZ1⟩:∃f:Nat→Nat→Int,f=(fun j=>if j=i then y else Z j):=⟨_,rfl⟩
   rw[←hvs1, ←hZ1]at HI
   clear hvs1 hZ1 HG
   go_loopw [17,19] (fun v17 vj wr=>∃(j:Nat) (l':List (Nat×Nat×Nat)),j≤T∧vj = .int .i64 j∧Hid (TlM w2.heap.size gx D N K M T i (i+1) j c vs1 Z1 l' v' v17 wr∧Below w2.heap.size w2 wr)) (fun _ vj _=>T-(intOf vj).toNat)
   case atStart=>exact⟨0,l,by omega,rfl,HI.out⟩
   case round=>
    obtain⟨j,l',hj,rfl,HG2⟩:=hrel
    rename World=>wB
    by_cases hjt:j<T
    ·have hjb:(j:Int)<(T:Int):=by omega
     have e1:IntKind.i64.wrap (2*(j:Int))=((2*j:Nat):Int):=wrap_to (by omega) (by omega)
     obtain⟨a1,ha1⟩:∃a1,a1=2*j+i:=⟨_,rfl⟩
     have e2:IntKind.i64.wrap (2*(j:Int)+(i:Int))=(a1:Int):=wrap_to (by omega) (by omega)
     obtain⟨a2,ha2⟩:∃a2,a2=2*j+1+i:=⟨_,rfl⟩
     have e3:IntKind.i64.wrap (2*(j:Int)+1)=((2*j+1:Nat):Int):=wrap_to (by omega) (by omega)
     have e4:IntKind.i64.wrap (2*(j:Int)+1+(i:Int))=(a2:Int):=wrap_to (by omega) (by omega)
     have hab:a1≤100∧a2≤100:=by omega
     clear ha1 ha2
     go_wp2_with fail
     refine(HR.out a1 wB hab.1 (bel_up' H2.out.1 HG2.out.2)).mono ?_
     rintro e w4 ⟨⟨x1,rfl,hx1⟩,k4,hw4⟩
     have H4:Hid (TlM w2.heap.size gx D N K M T i (i+1) j c vs1 Z1 l' v' u17 w4∧Below w2.heap.size w2 w4):=by
      rw[hw4]
      exact⟨HG2.out.1.below (below_drewN2 (Below.refl _ _) k4),below_drewN2 HG2.out.2 k4⟩
     clear hw4 HG2
     obtain⟨P1,hP1,hpk1⟩:=HP.out x1 N hx1 (by omega) (by omega)
     have HK1:Hid (∀w:World,Calls Tryz.prog 15 #[.int .i64 x1,.int .i64 N] w fun e w'=>e = .returned (.int .i64 P1)∧w'=w):=hpk1
     clear hpk1
     go_wp2_with fail
     refine(HK1.out w4).mono ?_
     rintro e w' ⟨rfl,hw⟩
     have hw:=hw.symm
     subst hw
     go_wp2_with fail
     refine(HR.out a2 w4 hab.2 (bel_up' H2.out.1 H4.out.2)).mono ?_
     rintro e w5 ⟨⟨x2,rfl,hx2⟩,k5,hw5⟩
     have H5:Hid (TlM w2.heap.size gx D N K M T i (i+1) j c vs1 Z1 l' v' u17 w5∧Below w2.heap.size w2 w5):=by
      rw[hw5]
      exact⟨H4.out.1.below (below_drewN2 (Below.refl _ _) k5),below_drewN2 H4.out.2 k5⟩
     clear hw5 H4
     obtain⟨P2,hP2,hpk2⟩:=HP.out x2 D.q hx2 (by omega) (by omega)
     have HK2:Hid (∀w:World,Calls Tryz.prog 15 #[.int .i64 x2,.int .i64 (D.q:Nat)] w fun e w'=>e = .returned (.int .i64 P2)∧w'=w):=hpk2
     clear hpk2
     go_wp2_with fail
     refine(HK2.out w5).mono ?_
     rintro e w' ⟨rfl,hw⟩
     have hw:=hw.symm
     subst hw
     have hll2:l'.length≤1000000:=by
      rw[H5.out.1.len]
      have:=Nat.mul_le_mul (show i≤8 by omega) (show T≤4 by omega)
      omega
     have hs5:=H5.out.2.size
     go_wp2_with (at_builtin;refine append_n rfl _ _ rfl w2.heap.size u17 l' rfl (H5.out.1.nz.below ((Below.refl _ _).alloc (Nat.le_refl _) _) (Nat.le_refl _)) w5.heap.size 1 (i,P1,P2) rfl (by rw[cell_of_row _ _ _ _ _ (0,0) (two_new _)];rfl) (by rw[cell_of_row _ _ _ _ _ (0,0) (two_new _)];rfl) (by rw[cell_of_row _ _ _ _ _ (0,0) (two_new _)];rfl) hll2 (by simp;omega) ?_;intro lv' w7 hown7 hg7)
     have hal2:Below w5.heap.size w5 (w5.alloc (.cells #[.int .i64 (i:Nat),.int .i64 (P1:Nat),.int .i64 (P2:Nat)] 47)):=(Below.refl _ _).alloc (Nat.le_refl _) _
     have hX:=(H5.out.1.below hal2).push (P1,P2) hlt ⟨hP1,hP2⟩ hown7 hg7
     have hY:=(bel_up' H5.out.2 hal2).grown hg7 (by simp;omega) (fun k hk=>(World.ownsRow.lt (H5.out.1.below hal2).nz k hk).1)
     exact⟨⟨j+1,l'++[(i,P1,P2)],by omega,rfl,hX,hY⟩,by simp[intOf];omega⟩
    ·have hjb:¬(j:Int)<(T:Int):=by omega
     have hje:T=j:=by omega
     go_wp2
     have hX:=HG2.out.1
     rw[←hje]at hX
     exact⟨⟨i+1,vs1,Z1,l',by omega,rfl,hX.next,HG2.out.2⟩,by simp[intOf];omega⟩
  ·have hib:¬(i:Int)<(M:Int):=by omega
   have hie:M=i:=by omega
   go_wp2
   exact⟨_,gx,c,vs,Z,l,u16,u17,⟨_,_,_,_,_,_,_,_,_,_,_,_,_,_,_,_,_,_,_,_,_,_,_,_,_,_,_,_,_,_,_,_,_,_,_,_,_,_,_,_,_,_,_,_,_,_,_,_,_,_,_,_,_,_,_,_,_,_,_,_,_,_,_,_,_,_,_,_,rfl⟩,by have:=HG.out.1;rw[hie]at this;exact this,H2.out.2.2.2,H2.out.2.1,bel_up' H2.out.1 HG.out.2⟩
def GtA(b o M K:Nat)(go gc:Nat→Nat)(am:Nat→Nat→Nat)(er:Nat→Nat)(w:World):Prop:=∀i,i<M→w.cell? ⟨b,o+i*3,none⟩=some (.slice (some ⟨go i,0,none⟩) K (gc i))∧w.cell? ⟨b,o+i*3+1,none⟩=some (.int .i64 (er i:Nat))∧w.cell? ⟨b,o+i*3+2,none⟩=some (.bool false)∧Sl (some ⟨go i,0,none⟩) K (am i) w
theorem Sl.slI {ao:Option Addr}{n cap:Nat}{c:Nat→Nat}{w:World}(h:Sl ao n c w)(h1:1≤n)(hn:n≤1000000):SliceI (.slice ao n cap) (zl n fun j=>((c j:Nat):Int)) w:=by
 obtain⟨b,off,rfl,_⟩:=h 0 (by omega)
 refine Or.inr ⟨fun e=>?_,by rw[zl_len];exact hn,b,off,cap,by rw[zl_len],fun j hj=>?_⟩
 ·have:=congrArg List.length e
  rw[zl_len]at this
  simp at this
  omega
 ·rw[zl_len]at hj
  obtain⟨b',off',e,hc⟩:=h j hj
  cases e
  rw[zl_getD _ _ _ hj]
  exact hc
theorem wpAnyX_firstN {P:Program}{ops:Array Oper}{Q:Exit→Act→World→Prop}{S:World→Prop}{L i:Nat}{oi:Oper}{v:Value}(hi:ops[i]?=some oi)(hsel:∀(j:Nat) (o:Oper) cs b, ops[j]?=some o→o.op ≠ .select cs b)
  (hQ:∀c a w,Q (.panic c) (a.put oi.dst v) w→Q (.panic c) a w) (hL:ops.size≤L) :
  ∀(f:Nat) (s:Array Bool) (a:Act) (w:World),
   (∀j oj,ops[j]?=some oj→j≠i→s.getD j true=false→(∀e∈oj.after,Region.binds .any e=true→e.on≠i)→oi.apart ops oj=true)→
   i∈Region.ready .any ops s→YieldsIf P ops S oi v a→S w →
   wpAnyX P ops Q S L f (s.setIfInBounds i true) (a.put oi.dst v) w→wpAnyX P ops Q S L (f+1) s a w:=by
 intro f
 induction f with
 | zero=>
  intro s a w _ hr hy hS H
  refine⟨fun h=>(by rw[h]at hr;cases hr),fun j hj=>?_⟩
  by_cases hji:j=i
  ·subst hji;exact hy.wpOp hi hS ⟨fun _=>hS,H⟩
  ·have:=ready_mono hj hji
   rw[H.1]at this
   cases this
 | succ f ih=>
  intro s a w hfree hr hy hS H
  refine⟨fun h=>(by rw[h]at hr;cases hr),fun j hj=>?_⟩
  by_cases hji:j=i
  ·subst hji;exact hy.wpOp hi hS ⟨fun _=>hS,H⟩
  ·have h1:=H.2 j (ready_mono hj hji)
   obtain⟨hjun,oj,hoj,hall⟩:=mem_ready.1 hj
   have hjL:j≠L:=fun e=>by have:=(Array.getElem?_eq_some_iff.1 hoj).1;omega
   have hnot:∀e∈oj.after,Region.binds .any e=true→e.on≠i:=fun e he hb heq=>by
    have h1:=hall e he hb
    have h0:=(mem_ready.1 hr).1
    rw[heq]at h1
    rcases Nat.lt_or_ge i s.size with h'|h'
    ·simp[h']at h0 h1;rw[h0]at h1;cases h1
    ·simp[Array.getElem?_eq_none h']at h1
   have h2:=wpOp_putIf hoj (hfree j oj hoj hji hjun hnot) (fun cs b=>hsel i oi cs b hi) (fun cs b=>hsel j oj cs b hoj) hQ hy h1
   have hfree':∀k ok, ops[k]?=some ok→k≠i→(s.setIfInBounds j true).getD k true=false →
     (∀e∈ok.after,Region.binds .any e=true→e.on≠i)→oi.apart ops ok=true:=fun k ok hk hki hun hno=>by
    refine hfree k ok hk hki ?_ hno
    by_cases hjk:j=k
    ·subst hjk;exact hjun
    ·rw[getD_set_ne true hjk]at hun;exact hun
   refine wpOp_mono (fun a' w' h3=>⟨fun _=>h3.2.1 hjL,ih (s.setIfInBounds j true) a' w' hfree' (ready_mono hr (Ne.symm hji)) h3.1 (h3.2.1 hjL) ?_⟩) h2
   rw[Array.setIfInBounds_comm _ _ hji]
   exact h3.2.2
theorem wpAnyX_takeN {P:Program}{ops:Array Oper}{Q:Exit→Act→World→Prop}{S:World→Prop}{L i:Nat}{oi:Oper}{v:Value}{f:Nat}{s:Array Bool}{a:Act}{w:World}(hi:ops[i]?=some oi)
  (hs:Region.noSelect ops=true) (hf:Region.free .any ops s i=true) (hr:(Region.ready .any ops s).contains i=true) (hL:ops.size≤L)
  (hQ:∀c a w,Q (.panic c) (a.put oi.dst v) w→Q (.panic c) a w) (hS:S w) (hy:YieldsIf P ops S oi v a)
  (h:wpAnyX P ops Q S L f (s.setIfInBounds i true) (a.put oi.dst v) w):wpAnyX P ops Q S L (f+1) s a w:=
 wpAnyX_firstN hi (Region.noSelect_spec hs) hQ hL f s a w (Region.free_spec hi hf) (by simpa using hr) hy hS h
theorem tkN {P:Program}{ops:Array Oper}{Q:Exit→Act→World→Prop}{S:World→Prop}{L i:Nat}{oi:Oper}{v:Value}{f:Nat}{s:Array Bool}{a:Act}{w:World}(hS:S w)(hv:∀w, S w→(execOp a.eval oi).run P w = .ok (.value v) w)
  (h:wpAnyX P ops Q S L f (s.setIfInBounds i true) (a.put oi.dst v) w) (hi:ops[i]?=some oi:=by rw[List.getElem?_toArray];rfl) (hg:Region.wanted oi (yielded ops a.tmps)=true:=by rfl)
  (hs:Region.noSelect ops=true:=by kernel_rfl) (hf:Region.free .any ops s i=true:=by kernel_rfl) (hr:(Region.ready .any ops s).contains i=true:=by kernel_rfl) (hL:ops.size≤L:=by decide) (hQ:∀c a w,Q (.panic c) (a.put oi.dst v) w→Q (.panic c) a w:=by exact fun _ _ _ h=>h):wpAnyX P ops Q S L (f+1) s a w:=
 wpAnyX_takeN hi hs hf hr hL hQ hS (Or.inl ⟨hg,hv⟩) h
theorem Sl.ltB {ao:Option Addr}{n:Nat}{c:Nat→Nat}{w:World}(h:Sl ao n c w)(h1:1≤n):LtB ao w.heap.size:=by
 obtain⟨b,off,rfl,hc⟩:=h 0 (by omega)
 intro x hx
 cases hx
 exact cell_lt hc
set_option maxHeartbeats 16000000 in
set_option maxRecDepth 100000 in
theorem tl_post {M K ba oa ca bb ob cb mc:Nat}{mo:Option Addr}{X:Int}{go gc go2 gc2:Nat→Nat}{av:Nat→Nat→Nat}{er er2:Nat→Nat}{ao:Nat→Option Addr}{cm:Nat→Nat}(v0 v1 v2 v3 v5 v6 v15 v17 v18 v19 v29 v30 v31 v32 v33 v34 v35 v36 v37 v38 v39 v40 v41 v42 v43 v44 v45 v46 v47 v48 v49 v50 v51 v52 v53 v54 v55 v56 v57 v58 v59 v60 v61 v62 v63 v64 v65 v66 v67 v68 v69 v70 v71 v72 v73 v74 v75 v76 v77 v78 v79 v80 v81 v82 v83 v84 v85 v86 v87 v88 v89 v90 v91 v92 v93 v94 v95 v96 v97 v98 v99 v100 v101 v102 v103 v104 v105 v106 v107 v108 v109 v110 v111 v112 v113 v114 v115 v116 v117 v118 v119 v120 v121 v122 v123:Value)(hM:M≤8)(hK1:1≤K)(hK:K≤9)(hca:M≤ca∧ca≤9223372036854775807)(_hcb:M≤cb∧cb≤9223372036854775807)(he:∀i, i<M→er i=er2 i∧er i≤1000){w:World}
  (hA:GtA ba oa M K go gc av er w) (hB:GtA bb ob M K go2 gc2 av er2 w) (hm:MsA mo M K ao cm av w) :
  (tlC Tryz.f5 13).wp Tryz.prog (fun e a w'=>(e = .normal∨e = .ret)∧a.defers=[]∧a.tmps[14]?=some (.bool true)∧Below w.heap.size w w') ⟨#[v0,v1,v2,v3,.int .i64 (M:Nat),v5,v6,undef,undef,undef,undef,undef,undef,undef,.bool false,v15,.slice mo M mc,v17,v18,v19,.slice (some ⟨ba,oa,none⟩) M ca,.int .i64 X,.int .i64 0,.int .i64 0,.slice (some ⟨bb,ob,none⟩) M cb,.int .i64 X,.int .i64 0,.int .i64 0,undef,v29,v30,v31,v32,v33,v34,v35,v36,v37,v38,v39,v40,v41,v42,v43,v44,v45,v46,v47,v48,v49,v50,v51,v52,v53,v54,v55,v56,v57,v58,v59,v60,v61,v62,v63,v64,v65,v66,v67,v68,v69,v70,v71,v72,v73,v74,v75,v76,v77,v78,v79,v80,v81,v82,v83,v84,v85,v86,v87,v88,v89,v90,v91,v92,v93,v94,v95,v96,v97,v98,v99,v100,v101,v102,v103,v104,v105,v106,v107,v108,v109,v110,v111,v112,v113,v114,v115,v116,v117,v118,v119,v120,v121,v122,v123,undef,undef,undef,undef,undef,undef,undef,undef,undef,undef,undef,undef,undef,undef,undef,undef,undef,undef,undef,undef,undef,undef,undef,undef,undef,undef,undef,undef,undef,undef,undef,undef,undef,undef,undef,undef,undef,undef,undef,undef,undef,undef,undef,undef,undef,undef,undef,undef,undef,undef,undef,undef,undef,undef,undef,undef,undef,undef,undef,undef,undef,undef,undef,undef,undef,undef,undef,undef,undef,undef,undef,undef,undef,undef,undef,undef,undef,undef,undef,undef,undef,undef,undef,undef,undef,undef,undef],[]⟩ w:=by
 simp only[tlC,Tryz.f5]
 have HA:Hid (GtA ba oa M K go gc av er w∧GtA bb ob M K go2 gc2 av er2 w∧MsA mo M K ao cm av w∧∀i,i<M→er i=er2 i∧er i≤1000):=⟨hA,hB,hm,he⟩
 clear hA hB hm he
 go_wp2
 go_loopw [28] (fun vi wr=>∃(i:Nat),i≤M∧vi = .int .i64 i∧Hid (Below w.heap.size w wr)) (fun vi _=>M-(intOf vi).toNat)
 case atStart=>exact⟨0,by omega,rfl,Below.refl _ _⟩
 case round=>
  obtain⟨i,hi,rfl,HG⟩:=hrel
  rename World=>wA
  by_cases hlt:i<M
  ·have hib:(i:Int)<(M:Int):=by omega
   obtain⟨xa0,xa1,xa2,hsa⟩:=HA.out.1 i hlt
   obtain⟨xb0,xb1,xb2,hsb⟩:=HA.out.2.1 i hlt
   obtain⟨⟨bm,om,rfl,hbm,xm⟩,hsm,_⟩:=HA.out.2.2.1 i hlt
   obtain⟨hee,heb⟩:=HA.out.2.2.2 i hlt
   rw[←hee]at xb1
   have HS1:Hid (∀wx,Below w.heap.size w wx→Calls Tryz.prog 13 #[.slice (some ⟨go i,0,none⟩) K (gc i),.slice (ao i) K (cm i)] wx fun e w'=>e = .returned (.bool true)∧Below wx.heap.size wx w'):=fun wx hx=>by
    refine(same_any (Sl.slI (hsa.below hx (hsa.ltB hK1)) hK1 (by omega)) (Sl.slI (hsm.below hx (hsm.ltB hK1)) hK1 (by omega))).mono ?_
    rintro e w' ⟨rfl,m,rfl⟩
    exact⟨by simp,below_drewN2 (Below.refl _ _) m⟩
   have HS2:Hid (∀wx,Below w.heap.size w wx→Calls Tryz.prog 13 #[.slice (some ⟨go2 i,0,none⟩) K (gc2 i),.slice (ao i) K (cm i)] wx fun e w'=>e = .returned (.bool true)∧Below wx.heap.size wx w'):=fun wx hx=>by
    refine(same_any (Sl.slI (hsb.below hx (hsb.ltB hK1)) hK1 (by omega)) (Sl.slI (hsm.below hx (hsm.ltB hK1)) hK1 (by omega))).mono ?_
    rintro e w' ⟨rfl,m,rfl⟩
    exact⟨by simp,below_drewN2 (Below.refl _ _) m⟩
   have HF:Hid (∀wx,Below w.heap.size w wx→(fun wx:World=>wx.cell? ⟨ba,oa+i*3,none⟩=some (.slice (some ⟨go i,0,none⟩) K (gc i))∧wx.cell? ⟨ba,oa+i*3+1,none⟩=some (.int .i64 (er i:Nat))∧wx.cell? ⟨ba,oa+i*3+2,none⟩=some (.bool false)∧wx.cell? ⟨bb,ob+i*3,none⟩=some (.slice (some ⟨go2 i,0,none⟩) K (gc2 i))∧wx.cell? ⟨bb,ob+i*3+1,none⟩=some (.int .i64 (er i:Nat))∧wx.cell? ⟨bb,ob+i*3+2,none⟩=some (.bool false)∧wx.cell? ⟨bm,om+i,none⟩=some (.slice (ao i) K (cm i))) wx):=fun wx hx=>
    ⟨cell_below hx (cell_lt xa0) xa0,cell_below hx (cell_lt xa0) xa1,cell_below hx (cell_lt xa0) xa2,cell_below hx (cell_lt xb0) xb0,cell_below hx (cell_lt xb0) xb1,cell_below hx (cell_lt xb0) xb2,cell_below hx hbm xm⟩
   clear xa0 xa1 xa2 hsa xb0 xb1 xb2 hsb hsm xm hee
   go_wp2
   refine wp_region_noPanic ?_
   refine wp_region_X (S:=fun wx:World=>wx.cell? ⟨ba,oa+i*3,none⟩=some (.slice (some ⟨go i,0,none⟩) K (gc i))∧wx.cell? ⟨ba,oa+i*3+1,none⟩=some (.int .i64 (er i:Nat))∧wx.cell? ⟨ba,oa+i*3+2,none⟩=some (.bool false)∧wx.cell? ⟨bb,ob+i*3,none⟩=some (.slice (some ⟨go2 i,0,none⟩) K (gc2 i))∧wx.cell? ⟨bb,ob+i*3+1,none⟩=some (.int .i64 (er i:Nat))∧wx.cell? ⟨bb,ob+i*3+2,none⟩=some (.bool false)∧wx.cell? ⟨bm,om+i,none⟩=some (.slice (ao i) K (cm i))) 51 (by kernel_rfl) ?_
   have HD:Hid (Below w.heap.size w wA.drew):=HG.out.drew
   have hS0:=HF.out _ HD.out
   refine tkN (i:=0) (v:=?_) hS0 ?_ ?_
   rotate_left
   ·intro wz hSz;obtain⟨z0,z1,z2,z3,z4,z5,z6⟩:=hSz;go_simp;first|done|with_reducible rfl
   try simp only[Act.put,List.setIfInBounds_toArray,List.set_cons_zero,List.set_cons_succ]
   refine tkN (i:=1) (v:=?_) hS0 ?_ ?_
   rotate_left
   ·intro wz hSz;obtain⟨z0,z1,z2,z3,z4,z5,z6⟩:=hSz;go_simp;first|done|with_reducible rfl
   try simp only[Act.put,List.setIfInBounds_toArray,List.set_cons_zero,List.set_cons_succ]
   refine tkN (i:=2) (v:=?_) hS0 ?_ ?_
   rotate_left
   ·intro wz hSz;obtain⟨z0,z1,z2,z3,z4,z5,z6⟩:=hSz;go_simp;first|done|with_reducible rfl
   try simp only[Act.put,List.setIfInBounds_toArray,List.set_cons_zero,List.set_cons_succ]
   refine tkN (i:=3) (v:=?_) hS0 ?_ ?_
   rotate_left
   ·intro wz hSz;obtain⟨z0,z1,z2,z3,z4,z5,z6⟩:=hSz;go_simp;first|done|with_reducible rfl
   try simp only[Act.put,List.setIfInBounds_toArray,List.set_cons_zero,List.set_cons_succ]
   refine tkN (i:=4) (v:=?_) hS0 ?_ ?_
   rotate_left
   ·intro wz hSz;obtain⟨z0,z1,z2,z3,z4,z5,z6⟩:=hSz;go_simp;first|done|with_reducible rfl
   try simp only[Act.put,List.setIfInBounds_toArray,List.set_cons_zero,List.set_cons_succ]
   refine tkN (i:=5) (v:=?_) hS0 ?_ ?_
   rotate_left
   ·intro wz hSz;obtain⟨z0,z1,z2,z3,z4,z5,z6⟩:=hSz;go_simp;first|done|with_reducible rfl
   try simp only[Act.put,List.setIfInBounds_toArray,List.set_cons_zero,List.set_cons_succ]
   refine tkN (i:=6) (v:=?_) hS0 ?_ ?_
   rotate_left
   ·intro wz hSz;obtain⟨z0,z1,z2,z3,z4,z5,z6⟩:=hSz;go_simp;first|done|with_reducible rfl
   try simp only[Act.put,List.setIfInBounds_toArray,List.set_cons_zero,List.set_cons_succ]
   refine tkN (i:=7) (v:=?_) hS0 ?_ ?_
   rotate_left
   ·intro wz hSz;obtain⟨z0,z1,z2,z3,z4,z5,z6⟩:=hSz;go_simp;first|done|with_reducible rfl
   try simp only[Act.put,List.setIfInBounds_toArray,List.set_cons_zero,List.set_cons_succ]
   refine tkN (i:=8) (v:=?_) hS0 ?_ ?_
   rotate_left
   ·intro wz hSz;obtain⟨z0,z1,z2,z3,z4,z5,z6⟩:=hSz;go_simp;first|done|with_reducible rfl
   try simp only[Act.put,List.setIfInBounds_toArray,List.set_cons_zero,List.set_cons_succ]
   refine tkN (i:=9) (v:=?_) hS0 ?_ ?_
   rotate_left
   ·intro wz hSz;obtain⟨z0,z1,z2,z3,z4,z5,z6⟩:=hSz;go_simp;first|done|with_reducible rfl
   try simp only[Act.put,List.setIfInBounds_toArray,List.set_cons_zero,List.set_cons_succ]
   refine tkN (i:=10) (v:=?_) hS0 ?_ ?_
   rotate_left
   ·intro wz hSz;obtain⟨z0,z1,z2,z3,z4,z5,z6⟩:=hSz;go_simp;first|done|with_reducible rfl
   try simp only[Act.put,List.setIfInBounds_toArray,List.set_cons_zero,List.set_cons_succ]
   refine tkN (i:=11) (v:=?_) hS0 ?_ ?_
   rotate_left
   ·intro wz hSz;obtain⟨z0,z1,z2,z3,z4,z5,z6⟩:=hSz;go_simp;first|done|with_reducible rfl
   try simp only[Act.put,List.setIfInBounds_toArray,List.set_cons_zero,List.set_cons_succ]
   refine tkN (i:=12) (v:=?_) hS0 ?_ ?_
   rotate_left
   ·intro wz hSz;obtain⟨z0,z1,z2,z3,z4,z5,z6⟩:=hSz;go_simp;first|done|with_reducible rfl
   try simp only[Act.put,List.setIfInBounds_toArray,List.set_cons_zero,List.set_cons_succ]
   refine tkN (i:=13) (v:=?_) hS0 ?_ ?_
   rotate_left
   ·intro wz hSz;obtain⟨z0,z1,z2,z3,z4,z5,z6⟩:=hSz;go_simp;first|done|with_reducible rfl
   try simp only[Act.put,List.setIfInBounds_toArray,List.set_cons_zero,List.set_cons_succ]
   refine tkN (i:=14) (v:=?_) hS0 ?_ ?_
   rotate_left
   ·intro wz hSz;obtain⟨z0,z1,z2,z3,z4,z5,z6⟩:=hSz;go_simp;first|done|with_reducible rfl
   try simp only[Act.put,List.setIfInBounds_toArray,List.set_cons_zero,List.set_cons_succ]
   refine tkN (i:=15) (v:=?_) hS0 ?_ ?_
   rotate_left
   ·intro wz hSz;obtain⟨z0,z1,z2,z3,z4,z5,z6⟩:=hSz;go_simp;first|done|with_reducible rfl
   try simp only[Act.put,List.setIfInBounds_toArray,List.set_cons_zero,List.set_cons_succ]
   refine tkN (i:=16) (v:=?_) hS0 ?_ ?_
   rotate_left
   ·intro wz hSz;obtain⟨z0,z1,z2,z3,z4,z5,z6⟩:=hSz;go_simp;first|done|with_reducible rfl
   try simp only[Act.put,List.setIfInBounds_toArray,List.set_cons_zero,List.set_cons_succ]
   refine tkN (i:=17) (v:=?_) hS0 ?_ ?_
   rotate_left
   ·intro wz hSz;obtain⟨z0,z1,z2,z3,z4,z5,z6⟩:=hSz;go_simp;first|done|with_reducible rfl
   try simp only[Act.put,List.setIfInBounds_toArray,List.set_cons_zero,List.set_cons_succ]
   refine tkN (i:=18) (v:=?_) hS0 ?_ ?_
   rotate_left
   ·intro wz hSz;obtain⟨z0,z1,z2,z3,z4,z5,z6⟩:=hSz;go_simp;first|done|with_reducible rfl
   try simp only[Act.put,List.setIfInBounds_toArray,List.set_cons_zero,List.set_cons_succ]
   refine tkN (i:=19) (v:=?_) hS0 ?_ ?_
   rotate_left
   ·intro wz hSz;obtain⟨z0,z1,z2,z3,z4,z5,z6⟩:=hSz;go_simp;first|done|with_reducible rfl
   try simp only[Act.put,List.setIfInBounds_toArray,List.set_cons_zero,List.set_cons_succ]
   refine tkN (i:=20) (v:=?_) hS0 ?_ ?_
   rotate_left
   ·intro wz hSz;obtain⟨z0,z1,z2,z3,z4,z5,z6⟩:=hSz;go_simp;first|done|with_reducible rfl
   try simp only[Act.put,List.setIfInBounds_toArray,List.set_cons_zero,List.set_cons_succ]
   refine tkN (i:=21) (v:=?_) hS0 ?_ ?_
   rotate_left
   ·intro wz hSz;obtain⟨z0,z1,z2,z3,z4,z5,z6⟩:=hSz;go_simp;first|done|with_reducible rfl
   try simp only[Act.put,List.setIfInBounds_toArray,List.set_cons_zero,List.set_cons_succ]
   refine tkN (i:=22) (v:=?_) hS0 ?_ ?_
   rotate_left
   ·intro wz hSz;obtain⟨z0,z1,z2,z3,z4,z5,z6⟩:=hSz;go_simp;first|done|with_reducible rfl
   try simp only[Act.put,List.setIfInBounds_toArray,List.set_cons_zero,List.set_cons_succ]
   refine tkN (i:=23) (v:=?_) hS0 ?_ ?_
   rotate_left
   ·intro wz hSz;obtain⟨z0,z1,z2,z3,z4,z5,z6⟩:=hSz;go_simp;first|done|with_reducible rfl
   try simp only[Act.put,List.setIfInBounds_toArray,List.set_cons_zero,List.set_cons_succ]
   refine tkN (i:=24) (v:=?_) hS0 ?_ ?_
   rotate_left
   ·intro wz hSz;obtain⟨z0,z1,z2,z3,z4,z5,z6⟩:=hSz;go_simp;first|done|with_reducible rfl
   try simp only[Act.put,List.setIfInBounds_toArray,List.set_cons_zero,List.set_cons_succ]
   refine tkN (i:=25) (v:=?_) hS0 ?_ ?_
   rotate_left
   ·intro wz hSz;obtain⟨z0,z1,z2,z3,z4,z5,z6⟩:=hSz;go_simp;first|done|with_reducible rfl
   try simp only[Act.put,List.setIfInBounds_toArray,List.set_cons_zero,List.set_cons_succ]
   refine tkN (i:=26) (v:=?_) hS0 ?_ ?_
   rotate_left
   ·intro wz hSz;obtain⟨z0,z1,z2,z3,z4,z5,z6⟩:=hSz;go_simp;first|done|with_reducible rfl
   try simp only[Act.put,List.setIfInBounds_toArray,List.set_cons_zero,List.set_cons_succ]
   refine tkN (i:=27) (v:=?_) hS0 ?_ ?_
   rotate_left
   ·intro wz hSz;obtain⟨z0,z1,z2,z3,z4,z5,z6⟩:=hSz;go_simp;first|done|with_reducible rfl
   try simp only[Act.put,List.setIfInBounds_toArray,List.set_cons_zero,List.set_cons_succ]
   refine tkN (i:=28) (v:=?_) hS0 ?_ ?_
   rotate_left
   ·intro wz hSz;obtain⟨z0,z1,z2,z3,z4,z5,z6⟩:=hSz;go_simp;first|done|with_reducible rfl
   try simp only[Act.put,List.setIfInBounds_toArray,List.set_cons_zero,List.set_cons_succ]
   refine tkN (i:=29) (v:=?_) hS0 ?_ ?_
   rotate_left
   ·intro wz hSz;obtain⟨z0,z1,z2,z3,z4,z5,z6⟩:=hSz;go_simp;first|done|with_reducible rfl
   try simp only[Act.put,List.setIfInBounds_toArray,List.set_cons_zero,List.set_cons_succ]
   refine tkN (i:=30) (v:=?_) hS0 ?_ ?_
   rotate_left
   ·intro wz hSz;obtain⟨z0,z1,z2,z3,z4,z5,z6⟩:=hSz;go_simp;first|done|with_reducible rfl
   try simp only[Act.put,List.setIfInBounds_toArray,List.set_cons_zero,List.set_cons_succ]
   refine tkN (i:=31) (v:=?_) hS0 ?_ ?_
   rotate_left
   ·intro wz hSz;obtain⟨z0,z1,z2,z3,z4,z5,z6⟩:=hSz;go_simp;first|done|with_reducible rfl
   try simp only[Act.put,List.setIfInBounds_toArray,List.set_cons_zero,List.set_cons_succ]
   refine tkN (i:=32) (v:=?_) hS0 ?_ ?_
   rotate_left
   ·intro wz hSz;obtain⟨z0,z1,z2,z3,z4,z5,z6⟩:=hSz;go_simp;first|done|with_reducible rfl
   try simp only[Act.put,List.setIfInBounds_toArray,List.set_cons_zero,List.set_cons_succ]
   refine tkN (i:=33) (v:=?_) hS0 ?_ ?_
   rotate_left
   ·intro wz hSz;obtain⟨z0,z1,z2,z3,z4,z5,z6⟩:=hSz;go_simp;first|done|with_reducible rfl
   try simp only[Act.put,List.setIfInBounds_toArray,List.set_cons_zero,List.set_cons_succ]
   refine tkN (i:=34) (v:=?_) hS0 ?_ ?_
   rotate_left
   ·intro wz hSz;obtain⟨z0,z1,z2,z3,z4,z5,z6⟩:=hSz;go_simp;first|done|with_reducible rfl
   try simp only[Act.put,List.setIfInBounds_toArray,List.set_cons_zero,List.set_cons_succ]
   refine wpAnyX_one (i:=35) (by kernel_rfl) (by rw[List.getElem?_toArray];rfl) (fun KK hK=>?_)
   have HK:Hid _:=hK
   clear hK
   go_simp
   refine(HS1.out _ HD.out).mono ?_
   rintro e w5 ⟨rfl,hb⟩
   have Hw5:Hid (Below w.heap.size w w5):=bel_up' HD.out hb
   clear hb
   refine HK.out _ _ (fun _=>HF.out _ Hw5.out) ?_
   clear HK KK
   have hS0:=HF.out _ Hw5.out
   try simp only[Act.put,List.setIfInBounds_toArray,List.set_cons_zero,List.set_cons_succ]
   refine tkN (i:=36) (v:=?_) hS0 ?_ ?_
   rotate_left
   ·intro wz hSz;obtain⟨z0,z1,z2,z3,z4,z5,z6⟩:=hSz;go_simp;first|done|with_reducible rfl
   try simp only[Act.put,List.setIfInBounds_toArray,List.set_cons_zero,List.set_cons_succ]
   refine tkN (i:=37) (v:=?_) hS0 ?_ ?_
   rotate_left
   ·intro wz hSz;obtain⟨z0,z1,z2,z3,z4,z5,z6⟩:=hSz;go_simp;first|done|with_reducible rfl
   try simp only[Act.put,List.setIfInBounds_toArray,List.set_cons_zero,List.set_cons_succ]
   refine tkN (i:=38) (v:=?_) hS0 ?_ ?_
   rotate_left
   ·intro wz hSz;obtain⟨z0,z1,z2,z3,z4,z5,z6⟩:=hSz;go_simp;first|done|with_reducible rfl
   try simp only[Act.put,List.setIfInBounds_toArray,List.set_cons_zero,List.set_cons_succ]
   refine tkN (i:=39) (v:=?_) hS0 ?_ ?_
   rotate_left
   ·intro wz hSz;obtain⟨z0,z1,z2,z3,z4,z5,z6⟩:=hSz;go_simp;first|done|with_reducible rfl
   try simp only[Act.put,List.setIfInBounds_toArray,List.set_cons_zero,List.set_cons_succ]
   refine tkN (i:=40) (v:=?_) hS0 ?_ ?_
   rotate_left
   ·intro wz hSz;obtain⟨z0,z1,z2,z3,z4,z5,z6⟩:=hSz;go_simp;first|done|with_reducible rfl
   try simp only[Act.put,List.setIfInBounds_toArray,List.set_cons_zero,List.set_cons_succ]
   refine tkN (i:=41) (v:=?_) hS0 ?_ ?_
   rotate_left
   ·intro wz hSz;obtain⟨z0,z1,z2,z3,z4,z5,z6⟩:=hSz;go_simp;first|done|with_reducible rfl
   try simp only[Act.put,List.setIfInBounds_toArray,List.set_cons_zero,List.set_cons_succ]
   refine tkN (i:=42) (v:=?_) hS0 ?_ ?_
   rotate_left
   ·intro wz hSz;obtain⟨z0,z1,z2,z3,z4,z5,z6⟩:=hSz;go_simp;first|done|with_reducible rfl
   try simp only[Act.put,List.setIfInBounds_toArray,List.set_cons_zero,List.set_cons_succ]
   refine tkN (i:=43) (v:=?_) hS0 ?_ ?_
   rotate_left
   ·intro wz hSz;obtain⟨z0,z1,z2,z3,z4,z5,z6⟩:=hSz;go_simp;first|done|with_reducible rfl
   try simp only[Act.put,List.setIfInBounds_toArray,List.set_cons_zero,List.set_cons_succ]
   refine tkN (i:=44) (v:=?_) hS0 ?_ ?_
   rotate_left
   ·intro wz hSz;obtain⟨z0,z1,z2,z3,z4,z5,z6⟩:=hSz;go_simp;first|done|with_reducible rfl
   try simp only[Act.put,List.setIfInBounds_toArray,List.set_cons_zero,List.set_cons_succ]
   refine tkN (i:=45) (v:=?_) hS0 ?_ ?_
   rotate_left
   ·intro wz hSz;obtain⟨z0,z1,z2,z3,z4,z5,z6⟩:=hSz;go_simp;first|done|with_reducible rfl
   try simp only[Act.put,List.setIfInBounds_toArray,List.set_cons_zero,List.set_cons_succ]
   refine tkN (i:=46) (v:=?_) hS0 ?_ ?_
   rotate_left
   ·intro wz hSz;obtain⟨z0,z1,z2,z3,z4,z5,z6⟩:=hSz;go_simp;first|done|with_reducible rfl
   try simp only[Act.put,List.setIfInBounds_toArray,List.set_cons_zero,List.set_cons_succ]
   refine tkN (i:=47) (v:=?_) hS0 ?_ ?_
   rotate_left
   ·intro wz hSz;obtain⟨z0,z1,z2,z3,z4,z5,z6⟩:=hSz;go_simp;first|done|with_reducible rfl
   try simp only[Act.put,List.setIfInBounds_toArray,List.set_cons_zero,List.set_cons_succ]
   refine wpAnyX_one (i:=48) (by kernel_rfl) (by rw[List.getElem?_toArray];rfl) (fun KK hK=>?_)
   have HK:Hid _:=hK
   clear hK
   go_simp
   refine(HS2.out _ Hw5.out).mono ?_
   rintro e w6 ⟨rfl,hb⟩
   have Hw6:Hid (Below w.heap.size w w6):=bel_up' Hw5.out hb
   clear hb
   refine HK.out _ _ (fun _=>HF.out _ Hw6.out) ?_
   clear HK KK
   have hS0:=HF.out _ Hw6.out
   try simp only[Act.put,List.setIfInBounds_toArray,List.set_cons_zero,List.set_cons_succ]
   refine tkN (i:=49) (v:=?_) hS0 ?_ ?_
   rotate_left
   ·intro wz hSz;obtain⟨z0,z1,z2,z3,z4,z5,z6⟩:=hSz;go_simp;first|done|with_reducible rfl
   try simp only[Act.put,List.setIfInBounds_toArray,List.set_cons_zero,List.set_cons_succ]
   refine tkN (i:=50) (v:=?_) hS0 ?_ ?_
   rotate_left
   ·intro wz hSz;obtain⟨z0,z1,z2,z3,z4,z5,z6⟩:=hSz;go_simp;first|done|with_reducible rfl
   try simp only[Act.put,List.setIfInBounds_toArray,List.set_cons_zero,List.set_cons_succ]
   refine wpAnyX_done (by kernel_rfl) (NoPanic.normal ?_)
   go_wp2
   exact⟨⟨i+1,by omega,rfl,Hw6.out⟩,by simp[intOf];omega⟩
  ·have hib:¬(i:Int)<(M:Int):=by omega
   have hie:M=i:=by omega
   go_wp2
   exact HG.out
end
section
open Go.RowKit Go.Sort
open Go.Conc
section
variable {B B0 gx:Nat}{D:FD}{N K M T:Nat}{c:Nat→Nat}{vs:Nat→Value}{Z:Nat→Nat→Int}{l:List (Nat×Nat×Nat)}{mv lv:Value}{W W':World}{h:Nat→Option Obj}
theorem TlM.cong(hT:TlM B gx D N K M T M M 0 c vs Z l mv lv W)(hc:∀x cs t,B0≤x→W.heap[x]?=some (.cells cs t)→W'.heap[x]?=some (.cells cs t))(hg:B0≤gx):TlM B gx D N K M T M M 0 c vs Z l mv lv W':=by
 have hB:∀g cs t,B≤g→W.heap[g]?=some (.cells cs t)→W'.heap[g]?=some (.cells cs t):=fun g cs t hl=>hc g cs t (by have:=hT.gx;omega)
 obtain⟨f,⟨cs,h1,h2,h3⟩,h4⟩:=hT.xs
 exact⟨⟨f,⟨cs,hc _ _ _ hg h1,h2,h3⟩,h4⟩,hT.gx,⟨own_cong hT.m.own hB,fun j hj=>own_cong (hT.m.row j hj) hB,hT.m.blw⟩,own_cong hT.nz hB,hT.cn,hT.bd,hT.len⟩
def rnL(gx N K M:Nat)(mv lv:Value)(vs:Nat→Value)(L:Nat):List (Nat×Nat×Nat):=(gx,0,N)::(obL mv (M*1)++(obL lv (L*3)++(List.range M).flatMap fun i=>obL (vs i) (K*1)))
def rnC(B gx N K M L b hi:Nat)(t:TypeId):Prop:=(b=gx∧hi=N∧t=3)∨(B≤b∧hi=M*1∧t=22)∨(B≤b∧hi=L*3∧t=47)∨(B≤b∧hi=K*1∧t=3)
theorem nzc_int {x:Value}(hx:x∈nzc l):∃z,x = .int .i64 z:=by
 unfold nzc at hx
 obtain⟨p,_,hp⟩:=List.mem_flatMap.1 hx
 simp at hp
 rcases hp with rfl|rfl|rfl<;>exact⟨_,rfl⟩
theorem rn_mem(hT:TlM B gx D N K M T M M 0 c vs Z l mv lv W)(hN:N≤D.q){b lo hi:Nat}(hm:(b,lo,hi)∈rnL gx N K M mv lv vs l.length):lo=0∧∃cur t,W.heap[b]?=some (.cells cur t)∧hi≤cur.size∧rnC B gx N K M l.length b hi t∧∀i,i<hi→(∃z,cur.getD i undef = .int .i64 z)∨∃j,j<M∧cur.getD i undef=vs j:=by
 simp only[rnL,List.mem_cons,List.mem_append,List.mem_flatMap,List.mem_range,Prod.mk.injEq]at hm
 rcases hm with⟨rfl,rfl,rfl⟩|hm|hm|⟨i,hi',hm⟩
 ·obtain⟨f,⟨cs,h1,h2,h3⟩,h4⟩:=hT.xs
  refine⟨rfl,cs,_,h1,by omega,Or.inl ⟨rfl,rfl,rfl⟩,fun i hi=>Or.inl ⟨((c i:Nat):Int),?_⟩⟩
  have:=h3 i (by omega)
  rw[h4 i (by omega)]at this
  simp[Array.getD_eq_getD_getElem?,this]
 ·have ho:=hT.m.own
  unfold OwnV at ho
  rw[vl_len]at ho
  obtain⟨h1,h2,h3,cur,h4,h5,h6⟩:=own_win ho hm
  refine⟨h2,cur,_,h4,h5,Or.inr (Or.inl ⟨h1,h3,rfl⟩),fun i hi=>Or.inr ?_⟩
  have:=h6 i hi
  unfold vl at this
  obtain⟨j,hj,e⟩:=List.mem_map.1 this
  exact⟨j,List.mem_range.1 hj,e.symm⟩
 ·obtain⟨h1,h2,h3,cur,h4,h5,h6⟩:=own_win hT.nz hm
  exact⟨h2,cur,_,h4,h5,Or.inr (Or.inr (Or.inl ⟨h1,h3,rfl⟩)),fun i hi=>Or.inl (nzc_int (h6 i hi))⟩
 ·have ho:=hT.m.row i hi'
  unfold OwnI at ho
  rw[zl_len]at ho
  obtain⟨h1,h2,h3,cur,h4,h5,h6⟩:=own_win ho hm
  refine⟨h2,cur,_,h4,h5,Or.inr (Or.inr (Or.inr ⟨h1,h3,rfl⟩)),fun i hi=>Or.inl ?_⟩
  obtain⟨z,_,e⟩:=List.mem_map.1 (h6 i hi)
  exact⟨z,e.symm⟩
theorem rn_uniq(hT:TlM B gx D N K M T M M 0 c vs Z l mv lv W)(hN:N≤D.q){b lo hi:Nat}(hm:(b,lo,hi)∈rnL gx N K M mv lv vs l.length):wnK (rnL gx N K M mv lv vs l.length) b=some (0,hi):=by
 obtain⟨h1,cur,t,h2,_,h4,_⟩:=rn_mem hT hN hm
 subst h1
 refine wnK_some hm fun p hp e=>?_
 obtain⟨b',lo',hi'⟩:=p
 have e:b'=b:=e
 subst e
 obtain⟨g1,cur',t',g2,_,g4,_⟩:=rn_mem hT hN hp
 subst g1
 rw[h2]at g2
 cases g2
 have:=hT.gx
 show(0,hi')=(0,hi)
 congr 1
 rcases h4 with⟨a1,a2,a3⟩|⟨a1,a2,a3⟩|⟨a1,a2,a3⟩|⟨a1,a2,a3⟩<;>rcases g4 with⟨b1,b2,b3⟩|⟨b1,b2,b3⟩|⟨b1,b2,b3⟩|⟨b1,b2,b3⟩<;>first|omega|(exfalso;have e:=a3.symm.trans b3;revert e;decide)
theorem rn_lo(hT:TlM B gx D N K M T M M 0 c vs Z l mv lv W)(hN:N≤D.q){b:Nat}(hb:(wnK (rnL gx N K M mv lv vs l.length) b).isSome=true):(fxT (rnL gx N K M mv lv vs l.length)).lo b=0:=by
 obtain⟨⟨lo,hi⟩,e⟩:=Option.isSome_iff_exists.1 hb
 have:=(rn_mem hT hN (wnK_mem e)).1
 subst this
 simp[fxT,fxK,e]
theorem rn_val(hT:TlM B gx D N K M T M M 0 c vs Z l mv lv W)(hN:N≤D.q){S:Nat→Prop}(hS:∀b,(wnK (rnL gx N K M mv lv vs l.length) b).isSome=true→S b){v:Value}{base n m size:Nat}{t:TypeId}{xs:List Value}(ho:W.ownsRow base t size v n xs)(hm:∀p,p∈obL v m→p∈rnL gx N K M mv lv vs l.length):VOk S (fxT (rnL gx N K M mv lv vs l.length)) v:=by
 obtain⟨_,⟨rfl,_⟩|⟨g',cap,cur,rfl,_⟩⟩:=ho
 ·simp[VOk]
 ·have hb:(wnK (rnL gx N K M mv lv vs l.length) g').isSome=true:=wnK_isSome.2 ⟨0,m,hm _ (by simp[obL,Value.ownBlock])⟩
  exact ok_sl ⟨hS _ hb,fun _=>by rw[rn_lo hT hN hb];exact Nat.zero_le _⟩
def msO(v:Value):Option Addr:=match v with | .slice a _ _=>a|_=>none
def msC(v:Value):Nat:=match v with | .slice _ _ k=>k|_=>0
theorem see_ok(hD:D∈fieldsL)(hN1:1≤N)(hN9:N≤9)(hN:N≤D.q)(hK1:1≤K)(hK:K≤N)(hM:M≤8)(hT4:T≤4)(hP:Perm' D.q c)(hT:TlM B gx D N K M T M M 0 c vs Z l mv lv W)(hh:∀b lo hi, (b, lo, hi)∈rnL gx N K M mv lv vs l.length→∃o, h b=some o) :
  RunSee h (D.q:Nat) (K:Nat) (some ⟨gx,0,none⟩) N D.q mv lv M (nzW D (fun i j=>((D.ev (zc K (Z i)) (c j) K:Nat):Int)) (naL l) (npL l) (nvL l) l.length) W:=by
 have hLn:l.length≤32:=by
  rw[hT.len]
  have:=Nat.mul_le_mul hM hT4
  omega
 obtain⟨L,hL⟩:∃L,L=rnL gx N K M mv lv vs l.length:=⟨_,rfl⟩
 have hmem:∀b lo hi,(b,lo,hi)∈L→lo=0∧∃cur t,W.heap[b]?=some (.cells cur t)∧hi≤cur.size∧∀i,i<hi→(∃z,cur.getD i undef = .int .i64 z)∨∃j,j<M∧cur.getD i undef=vs j:=fun b lo hi hm=>by
  rw[hL]at hm
  obtain⟨a1,cur,t,a2,a3,_,a5⟩:=rn_mem hT hN hm
  exact⟨a1,cur,t,a2,a3,a5⟩
 have huq:∀b lo hi,(b,lo,hi)∈L→wnK L b=some (0,hi):=fun b lo hi hm=>by
  rw[hL]at hm ⊢
  exact rn_uniq hT hN hm
 have hmx:(gx,0,N)∈L:=by rw[hL];simp[rnL]
 have hmm:∀p,p∈obL mv (M*1)→p∈L:=fun p hp=>by rw[hL];exact List.mem_cons_of_mem _ (List.mem_append_left _ hp)
 have hml:∀p,p∈obL lv (l.length*3)→p∈L:=fun p hp=>by rw[hL];exact List.mem_cons_of_mem _ (List.mem_append_right _ (List.mem_append_left _ hp))
 have hmr:∀i,i<M→∀p,p∈obL (vs i) (K*1)→p∈L:=fun i hi p hp=>by rw[hL];simp only[rnL,List.mem_cons,List.mem_append,List.mem_flatMap,List.mem_range];exact Or.inr (Or.inr (Or.inr ⟨i,hi,hp⟩))
 have hval:∀ {S:Nat→Prop} (_:∀b,(wnK L b).isSome=true→S b) {v:Value} {base n m size:Nat} {t:TypeId} {xs:List Value} (_:W.ownsRow base t size v n xs) (_:∀p,p∈obL v m→p∈L),VOk S (fxT L) v:=by
  rw[hL]
  exact fun hS=>rn_val hT hN hS
 obtain⟨hvw,hblk,hcf⟩:=clp_ok (l:=fun g=>memB tpL g=true) (wt:=wtN) (W:=W) (K:=wnK L) (Q:=fun _=>False) (fun b lo hi k=>by
  obtain⟨a1,cur,t,a2,a3,a4⟩:=hmem b lo hi (wnK_mem k)
  refine⟨cur,t,_,a2,a3,fun i _ hi=>?_⟩
  rcases a4 i hi with⟨z,e⟩|⟨j,hj,e⟩
  ·rw[e];exact ok_int _ _
  ·rw[e]
   exact hval (fun b hb=>Or.inl hb) (hT.m.row j hj) (hmr j hj)) (fun b hb=>hb.elim)
 have hsz:(clpW wtN (wnK L) W).heap.size=W.heap.size:=clpW_size
 have up:∀b,(wnK L b).isSome=true→Sto (fun b=>(wnK L b).isSome=true∨False) W.heap.size (clpW wtN (wnK L) W).heap.size b:=fun b hb=>Or.inl (Or.inl hb)
 have hcell:∀ {b hi i:Nat} {v:Value},(b,0,hi)∈L→i<hi→W.cell? ⟨b,i,none⟩=some v→(clpW wtN (wnK L) W).cell? ⟨b,i,none⟩=some v:=fun hm h2 e=>clpW_cell (huq _ _ _ hm) (Nat.zero_le _) h2 e
 have hxs:Sl (some ⟨gx,0,none⟩) N c (clpW wtN (wnK L) W):=fun j hj=>⟨gx,0,rfl,by rw[Nat.zero_add];exact hcell hmx hj (hT.xs.cell j (by omega))⟩
 have hlx:LtB (some ⟨gx,0,none⟩) (clpW wtN (wnK L) W).heap.size:=fun x e=>by cases e;rw[hsz];exact hT.xs.lt
 have hrow:∀i,i<M→∃g cap,vs i = .slice (some ⟨g,0,none⟩) K cap∧Sl (some ⟨g,0,none⟩) K (zc K (Z i)) (clpW wtN (wnK L) W)∧g<W.heap.size:=fun i hi=>by
  have ho:=hT.m.row i hi
  have hlt:=ho.lt
  unfold OwnI at ho
  rw[zl_len]at ho
  obtain⟨g,cap,e,_,_,_,h5,h6⟩:=own_obL ho hK1
  refine⟨g,cap,e,fun j hj=>⟨g,0,rfl,?_⟩,(hlt g (by rw[e];rfl)).2⟩
  rw[Nat.zero_add]
  refine hcell (hmr i hi (g,0,K*1) (by rw[h5];simp)) (by omega) ((h6 j (by omega)).trans ?_)
  have hb:=hT.m.blw i hi j hj
  rw[List.getElem?_map,zl_get K (Z i) j hj]
  show some (Value.int .i64 (Z i j))=some (.int .i64 ((zc K (Z i) j:Nat):Int))
  unfold zc
  rw[if_pos hj,Int.toNat_of_nonneg hb.1]
 have hmv:∃mo mc,mv = .slice mo M mc∧MsA mo M K (fun i=>msO (vs i)) (fun i=>msC (vs i)) (fun i=>zc K (Z i)) (clpW wtN (wnK L) W):=by
  have ho:=hT.m.own
  unfold OwnV at ho
  rw[vl_len]at ho
  rcases Nat.eq_zero_or_pos M with h0|h0
  ·obtain⟨_,⟨e,_⟩|⟨g,cap,cur,e,_⟩⟩:=ho
   ·exact⟨none,0,by rw[e,h0],fun i hi=>by omega⟩
   ·exact⟨_,cap,e,fun i hi=>by omega⟩
  ·obtain⟨g,cap,e,_,_,_,h5,h6⟩:=own_obL ho h0
   refine⟨_,cap,e,fun i hi=>?_⟩
   obtain⟨gr,cr,e2,hs,hl⟩:=hrow i hi
   have hg:(g,0,M*1)∈L:=hmm _ (by rw[h5];simp)
   refine⟨⟨g,0,rfl,?_,?_⟩,by show Sl (msO (vs i)) K (zc K (Z i)) _;rw[e2];exact hs,by show LtB (msO (vs i)) _;rw[e2];intro x hx;cases hx;rw[hsz];exact hl⟩
   ·rw[hsz]
    obtain⟨_,cur,_,a2,_⟩:=hmem _ _ _ hg
    exact lt_of_some a2
   ·rw[Nat.zero_add]
    refine hcell hg (by omega) ((h6 i (by omega)).trans ?_)
    rw[vl_get M vs i hi]
    show some (vs i)=some (Value.slice (msO (vs i)) K (msC (vs i)))
    rw[e2]
    rfl
 have hnz:∃no nc,lv = .slice no l.length nc∧NzA no l.length (naL l) (npL l) (nvL l) (clpW wtN (wnK L) W):=by
  obtain⟨no,cap,e,hz⟩:=OwnN.nza hT.nz
  refine⟨no,cap,e,fun r hr=>?_⟩
  obtain⟨b,off,e1,e2,e3,e4,e5⟩:=hz r hr
  obtain⟨g,cap',e',_,_,_,h5,_⟩:=own_obL hT.nz (by omega)
  rw[e']at e
  cases e
  cases e1
  have hg:(b,0,l.length*3)∈L:=hml _ (by rw[h5];simp)
  exact⟨b,0,rfl,by rw[hsz];exact e2,hcell hg (by omega) e3,hcell hg (by omega) e4,hcell hg (by omega) e5⟩
 obtain⟨mo,mc,hme,hMs⟩:=hmv
 obtain⟨no,nc,hne,hNz⟩:=hnz
 have hna:∀r,r<l.length→naL l r<M:=fun r hr=>(hT.bd.at r hr).1
 have hnp:∀r,r<l.length→npL l r<N:=fun r hr=>(hT.bd.at r hr).2.1
 have hnv:∀r,r<l.length→nvL l r = -1∨(0≤nvL l r∧nvL l r<(D.q:Int)):=fun r hr=>Or.inr ⟨(hT.bd.at r hr).2.2.1,(hT.bd.at r hr).2.2.2⟩
 have hE:∀i,i<M→El D (zc K (Z i)):=fun i hi j=>by
  unfold zc
  split
  ·rename_i hj
   have:=hT.m.blw i hi j hj
   omega
  ·have:=(fld hD).q2
   omega
 have hcx:∀i,i<N→c i<D.q:=fun i hi=>hP.1 i (by omega)
 have hci:∀i j,i<N→j<N→i≠j→c i≠c j:=fun i j hi hj e=>by
  rcases Nat.lt_or_ge i j with h1|h1
  ·exact hP.2 i j h1 (by omega)
  ·exact fun e2=>hP.2 j i (by omega) (by omega) e2.symm
 have hhx:∀b,((wnK L b).isSome=true∨False)→(∃o,h b=some o)∧(fxT L).cl b:=fun b hb=>by
  have hb:(wnK L b).isSome=true:=hb.elim id False.elim
  obtain⟨lo,hi,hm⟩:=wnK_isSome.1 hb
  rw[hL]at hm
  exact⟨hh b lo hi hm,hb⟩
 refine⟨fxT L,fun b=>(wnK L b).isSome=true∨False,clpW wtN (wnK L) W,⟨fxT_fns L,fun _ _=>wtN_no,hhx,hvw,hblk,hcf,fun v hv=>?_⟩,by show memB tpL _=true;kernel_rfl,by show memB tpL _=true;kernel_rfl,fun T d=>?_,fun T d=>?_⟩
 ·simp only[List.mem_cons,List.not_mem_nil,or_false]at hv
  rcases hv with rfl|rfl|rfl
  ·have hb:(wnK L gx).isSome=true:=wnK_isSome.2 ⟨_,_,hmx⟩
   exact ok_sl ⟨up _ hb,fun _=>by rw[hL,rn_lo hT hN (by rw[←hL];exact hb)];exact Nat.zero_le _⟩
  ·exact hval up hT.m.own hmm
  ·exact hval up hT.nz hml
 ·rw[hme,hne]
  exact(lchk_ok (w:=rtp (clpW wtN (wnK L) W) T d) hD hN1 (by omega) hN hcx hci hxs hlx hK1 hK hMs hE (by omega) hNz (by omega) hna hnp hnv).mono fun e u he=>he.1
 ·rw[hme,hne]
  exact(carry_any (w:=rtp (clpW wtN (wnK L) W) T d) hD hN1 (by omega) hN hcx hci hxs hlx hK1 hK hMs hE (by omega) hNz (by omega) hna hnp hnv).mono fun e u ⟨g0,bw,h1,h2,_⟩=>⟨g0,bw,h1,h2⟩
end
end
end Go.Proofs.YtedifobeggabnaaGreat
