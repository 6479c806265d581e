/- Texts of ours, one behind the other: KD2 KD3 KD4. -/
import Derived.Test.YtedifobeggabnaaGreatCbS20
import Derived.Test.YtedifobeggabnaaGreatCbL10
import Derived.Test.YtedifobeggabnaaGreatCbV7
namespace Go.Proofs.YtedifobeggabnaaGreat
open Go.RowKit Go.Sort
def hrR(B bx ox i:Nat)(vx vy:Value)(x:Int)(w:World):Prop:=w.cell? ⟨B,2,none⟩=some vx∧w.cell? ⟨B,3,none⟩=some vy∧w.cell? ⟨bx,ox+i,none⟩=some (.int .i64 x)
def hrL(z y:Nat→Int):Nat→List Int
 | 0=>[]
 |r+1=>if y r = -1 then hrL z y r else hrL z y r++[z r]
theorem hrL_len(z y:Nat→Int):∀r,(hrL z y r).length≤r
 | 0=>Nat.le_refl _
 |r+1=>by
  have:=hrL_len z y r
  show(if y r = -1 then hrL z y r else hrL z y r++[z r]).length≤r+1
  split
  ·omega
  ·rw[List.length_append];show _+1≤_;omega
def hbx(F:Nat)(k:Int)(vx vy:Value):Nat→Value:=fun j=>if j=0 then .pointer (some ⟨F,0,none⟩)else if j=1 then .int .i64 k else if j=2 then vx else vy
structure HrS(B8 B base F:Nat)(k:Int)(vx vy:Value)(lx ly:List Int)(w:World):Prop where
 res:∃f,RowF B8 4 151 f w
 box:RowF B 4 151 (hbx F k vx vy) w
 ox:OwnI base vx lx w
 oy:OwnI base vy ly w
 ne:vx.ownBlock=none∨vx.ownBlock≠vy.ownBlock
 l8:B8<base
 lB:B<base
 n8:B8≠B
 le:base≤w.heap.size
theorem OwnI.setFar {base B o:Nat}{v u:Value}{l:List Int}{w:World}(h:OwnI base v l w)(hB:B<base):OwnI base v l (w.setCell ⟨B,o,none⟩ u):=
 h.same (fun g hg=>Below.heap_setCell w ⟨B,o,none⟩ u g (by have:=(h.lt g hg).1;intro e;simp at e;omega))
theorem HrS.put {B8 B base F:Nat}{k x y:Int}{vx vy vx' vy':Value}{lx ly:List Int}{w w4:World}(h:HrS B8 B base F k vx vy lx ly w)(hb:Below base w w4)(hx:OwnI base vx' (lx++[x]) w4)(hy:OwnI base vy' (ly++[y]) w4)(hne:vx'.ownBlock=none∨vx'.ownBlock≠vy'.ownBlock) :
  HrS B8 B base F k vx' vy' (lx++[x]) (ly++[y]) ((w4.setCell ⟨B,2,none⟩ vx').setCell ⟨B,3,none⟩ vy'):=by
 obtain⟨f8,h8⟩:=h.res
 refine⟨⟨f8,((h8.below hb h.l8).setOther _ h.n8 _).setOther _ h.n8 _⟩,?_,(hx.setFar h.lB).setFar h.lB,(hy.setFar h.lB).setFar h.lB,hne,h.l8,h.lB,h.n8,?_⟩
 ·refine(((h.box.below hb h.lB).store 2 vx').store 3 vy').congr (fun o ho=>?_)
  have:o=0∨o=1∨o=2∨o=3:=by omega
  rcases this with rfl|rfl|rfl|rfl<;>rfl
 ·have:=hb.size
  have:=h.le
  show base≤((w4.setCell _ _).setCell _ _).heap.size
  simp
  omega
theorem apart_of {vx vy vx':Value}{g N M:Nat}(ne:vx.ownBlock=none∨vx.ownBlock≠vy.ownBlock)(e:vx'.ownBlock=some g)(hat:vx'.ownBlock=vx.ownBlock∨vx'.ownBlock=some N)(hy:∀b,vy.ownBlock=some b→b<M)(hNM:M≤N):vx'.ownBlock≠vy.ownBlock:=by
 intro h
 rcases hat with hat|hat
 ·rcases ne with ne|ne
  ·rw[hat,ne]at e;cases e
  ·exact ne (hat.symm.trans h)
 ·have:=hy N (h.symm.trans hat)
  omega
def hbx'(a:Array Value):Nat→Value:=fun j=>a.getD j undef
theorem rowF_new(w:World)(cs:Array Value)(t:TypeId)(n:Nat)(hn:cs.size=n):RowF w.heap.size n t (hbx' cs) (w.alloc (.cells cs t)):=by
 refine⟨cs,two_new _,hn,fun o ho=>?_⟩
 unfold hbx'
 rw[←hn]at ho
 simp[Array.getD,ho]
def HrI(n:Nat)(xs y:Nat→Int)(F:Nat)(k:Int)(w:World)(vi:Value)(wr:World):Prop:=∃(r:Nat) (vx vy:Value),r≤n∧vi = .int .i64 (r:Nat)∧Hid (HrS w.heap.size (w.heap.size+1) (w.heap.size+2) F k vx vy (hrL xs y r) (hrL y y r) wr∧Below w.heap.size w wr)
theorem bel_in {B base:Nat}{w wr w4:World}(h:Below B w wr)(h2:Below base wr w4)(hb:B≤base):Below B w w4:=h.trans (h2.mono hb)
theorem HrS.mid {B8 B base F:Nat}{k:Int}{vx vy:Value}{lx ly:List Int}{wr wp wq ws:World}(h:HrS B8 B base F k vx vy lx ly wr)(hp:Below wr.heap.size wr wp)(hg:wp.grownBy wq vx.ownBlock)(hs:Below wq.heap.size wq ws):OwnI base vy ly ws∧Below base wr ws:=by
 have hx:=h.ox.below hp (fun b hb=>(h.ox.lt b hb).2)
 have hy:=h.oy.below hp (fun b hb=>(h.oy.lt b hb).2)
 have hyq:OwnI base vy ly wq:=hy.kept hg (by
  rcases h.ne with e|e
  ·rw[e]
   cases hv:vy.ownBlock
   ·exact Or.inl rfl
   ·exact Or.inr (fun e2=>by cases e2)
  ·exact Or.inr (fun e2=>e e2.symm))
 have b1:Below base wr wp:=hp.mono h.le
 have b2:Below base wp wq:=below_grown hg (Nat.le_trans h.le hp.size) (fun b hb=>(hx.lt b hb).1)
 refine⟨hyq.below hs (fun b hb=>(hyq.lt b hb).2),(b1.trans b2).trans (hs.mono ?_)⟩
 exact Nat.le_trans (Nat.le_trans h.le hp.size) hg.size
theorem HrS.fin {B8 B base F:Nat}{k x:Int}{vx vy vx' vy':Value}{lx ly:List Int}{wr wp wq ws w4:World}{g:Nat}(h:HrS B8 B base F k vx vy lx ly wr)(hp:Below wr.heap.size wr wp)(hg:wp.grownBy wq vx.ownBlock)(hs:Below wq.heap.size wq ws)(hg2:ws.grownBy w4 vy.ownBlock)(hx:OwnI base vx' (lx++[x]) wq)(e:vx'.ownBlock=some g)(hat:vx'.ownBlock=vx.ownBlock∨vx'.ownBlock=some wp.heap.size)(hat2:vy'.ownBlock=vy.ownBlock∨vy'.ownBlock=some ws.heap.size):Below base wr w4∧OwnI base vx' (lx++[x]) w4∧(vx'.ownBlock=none∨vx'.ownBlock≠vy'.ownBlock):=by
 have hm:=h.mid hp hg hs
 have hap:=apart_of h.ne e hat (fun b hb=>(h.oy.lt b hb).2) hp.size
 have hxs:=hx.below hs (fun b hb=>(hx.lt b hb).2)
 refine⟨hm.2.trans (below_grown hg2 (Nat.le_trans h.le hm.2.size) (fun b hb=>(hm.1.lt b hb).1)),hxs.kept hg2 (Or.inr hap),Or.inr (fun e2=>?_)⟩
 rcases hat2 with h2|h2
 ·exact hap (e2.trans h2)
 ·have:=(hxs.lt g e).2
  rw[e,h2]at e2
  cases e2
  omega
theorem two_cell(w:World)(v:Value):(w.alloc (.cells #[v] 3)).cell? ⟨w.heap.size,0,none⟩=some v:=by simp
set_option maxHeartbeats 16000000 in
set_option maxRecDepth 100000 in
theorem hear_any {F:Nat}{xo wo:Option Addr}{n cx cw:Nat}(k:Int){xs y:Nat→Int}{w:World}(hX:Arg xo n cx xs w)(hY:Arg wo n cw y w)(hn:n≤64) :
  Calls Tryz.prog 102 #[.pointer (some ⟨F,0,none⟩),.slice xo n cx,.int .i64 k,.slice wo n cw] w fun e w'=>∃vx vy,e = .returned (.agg #[.pointer (some ⟨F,0,none⟩),.int .i64 k,vx,vy])∧OwnI w.heap.size vx (hrL xs y n) w'∧OwnI w.heap.size vy (hrL y y n) w'∧Below w.heap.size w w':=by
 obtain⟨w0,hw0⟩:∃w0,w0=(w.alloc (.cells #[.pointer none,.int .i64 0,.slice none 0 0,.slice none 0 0] 151)).alloc (.cells #[.pointer (some ⟨F,0,none⟩),.int .i64 k,.slice none 0 0,.slice none 0 0] 151):=⟨_,rfl⟩
 have hb0:Below w.heap.size w w0:=by rw[hw0];exact((Below.refl _ _).alloc (Nat.le_refl _) _).alloc (by simp) _
 have hs0:w0.heap.size=w.heap.size+2:=by rw[hw0];simp
 have HS0:Hid (HrS w.heap.size (w.heap.size+1) (w.heap.size+2) F k (.slice none 0 0) (.slice none 0 0) [] [] w0):=by
  obtain⟨w1,hw1⟩:∃w1,w1=w.alloc (.cells #[.pointer none,.int .i64 0,.slice none 0 0,.slice none 0 0] 151):=⟨_,rfl⟩
  have s1:w1.heap.size=w.heap.size+1:=by rw[hw1];simp
  have r8:RowF w.heap.size 4 151 (hbx' #[.pointer none,.int .i64 0,.slice none 0 0,.slice none 0 0]) w1:=by
   rw[hw1];exact rowF_new _ _ _ _ rfl
  rw[←hw1]at hw0
  have r9:RowF w1.heap.size 4 151 (hbx' #[.pointer (some ⟨F,0,none⟩),.int .i64 k,.slice none 0 0,.slice none 0 0]) w0:=by
   rw[hw0];exact rowF_new _ _ _ _ rfl
  rw[s1]at r9
  refine⟨⟨hbx' #[.pointer none,.int .i64 0,.slice none 0 0,.slice none 0 0],?_⟩,r9.congr (fun o ho=>?_),OwnI.nil _ _,OwnI.nil _ _,Or.inl rfl,by omega,by omega,by omega,by omega⟩
  ·rw[hw0];exact r8.alloc _
  ·have:o=0∨o=1∨o=2∨o=3:=by omega
   rcases this with rfl|rfl|rfl|rfl<;>rfl
 have HA:Hid (Arg xo n cx xs w∧Arg wo n cw y w∧Below w.heap.size w w0):=⟨hX,hY,hb0⟩
 clear hX hY hb0
 go_enter Tryz.func102,Tryz.ntmps102
 go_wp2
 rw[←hw0]
 clear hw0
 go_loopw [17] (fun vi wr=>HrI n xs y F k w vi wr) (fun vi _=>n-(intOf vi).toNat)
 case atStart=>exact⟨0,_,_,by omega,rfl,HS0.out,HA.out.2.2⟩
 case round=>
  obtain⟨r,vx,vy,hr,rfl,HI⟩:=hrel
  rename World=>wr
  clear HS0
  by_cases hlt:r<n
  ·have hrb:(r:Int)<(n:Int):=by omega
   have hi0:(0:Int)≤(r:Int):=by omega
   obtain⟨bw,ow,hwo,cw0⟩:=(HA.out.2.1.below HI.out.2).sl r hlt
   obtain⟨bx,ox,hxo,cx0⟩:=(HA.out.1.below HI.out.2).sl r hlt
   have hbx:bx<w.heap.size:=HA.out.1.lt _ hxo
   subst hwo hxo
   obtain⟨yv,hyv⟩:∃yv,yv=y r:=⟨_,rfl⟩
   obtain⟨x,hx⟩:∃x,x=xs r:=⟨_,rfl⟩
   rw[←hyv]at cw0
   rw[←hx]at cx0
   by_cases hm:yv = -1
   ·have HR:Hid (hrL xs y (r+1)=hrL xs y r∧hrL y y (r+1)=hrL y y r):=⟨if_pos (by rw[←hyv];exact hm),if_pos (by rw[←hyv];exact hm)⟩
    subst hm
    clear hyv hx
    go_wp2
    go_roundw
    case rel=>exact⟨r+1,vx,vy,by omega,by go_num,by rw[HR.out.1,HR.out.2];exact HI.out.1,HI.out.2⟩
    case measure=>simp[intOf];omega
   ·have hm2:(yv != -1)=true:=bne_iff_ne.2 hm
    have HR:Hid (hrL xs y (r+1)=hrL xs y r++[x]∧hrL y y (r+1)=hrL y y r++[yv]):=by
     refine⟨?_,?_⟩
     ·show(if y r = -1 then _ else _)=_
      rw[if_neg (by rw[←hyv];exact hm),hx]
     ·show(if y r = -1 then _ else _)=_
      rw[if_neg (by rw[←hyv];exact hm),hyv]
    have hlx:=hrL_len xs y r
    have hly:=hrL_len y y r
    obtain⟨lx,hlxe⟩:∃lx,lx=hrL xs y r:=⟨_,rfl⟩
    obtain⟨ly,hlye⟩:∃ly,ly=hrL y y r:=⟨_,rfl⟩
    rw[←hlxe, ←hlye]at HR HI
    rw[←hlxe]at hlx
    rw[←hlye]at hly
    clear hlxe hlye hyv hx hm
    have hin:(r:Int)<(n:Int):=hrb
    have hbase:=HI.out.1.le
    obtain⟨base,hbs⟩:∃base,base=w.heap.size+2:=⟨_,rfl⟩
    rw[←hbs]at HI hbase
    have HSk:Hid (∀wx,Below base wr wx→hrR (w.heap.size+1) bx ox r vx vy x wx):=fun wx hbw=>by
     have h1:=HI.out.1.box.below hbw (by have:=HI.out.1.lB;omega)
     refine⟨h1.cell 2 (by omega),h1.cell 3 (by omega),?_⟩
     rw[(bcell hbw).1 bx (ox+r) (by omega)];exact cx0
    have hlBB:w.heap.size+1<wr.heap.size:=by omega
    go_wp2
    refine wp_region_noPanic ?_
    have hS0:=HSk.out _ (Below.refl base wr).drew
    refine wp_region_L (S:=hrR (w.heap.size+1) bx ox r vx vy x) [14,15,16] (by kernel_rfl) ?_
    refine wpAnyL_take (i:=0) (v:=?_) (by rw[List.getElem?_toArray];rfl) (by decide +kernel) (by decide +kernel) (by decide +kernel) (by decide +kernel) (by decide +kernel) (fun _ _ _ h=>h) hS0 (Or.inl ⟨by rfl,?_⟩) ?_
    rotate_left
    ·intro wz hSz;obtain⟨z0,z1,z2⟩:=hSz;go_simp;first|done|with_reducible rfl|(simp only[hi0,hin,and_self,if_true,Int.toNat_natCast];first|done|with_reducible rfl)|(simp[hi0,hin];first|done|with_reducible rfl)
    try simp only[Act.put,List.setIfInBounds_toArray,List.set_cons_zero,List.set_cons_succ]
    refine wpAnyL_take (i:=1) (v:=?_) (by rw[List.getElem?_toArray];rfl) (by decide +kernel) (by decide +kernel) (by decide +kernel) (by decide +kernel) (by decide +kernel) (fun _ _ _ h=>h) hS0 (Or.inl ⟨by rfl,?_⟩) ?_
    rotate_left
    ·intro wz hSz;obtain⟨z0,z1,z2⟩:=hSz;go_simp;first|done|with_reducible rfl|(simp only[hi0,hin,and_self,if_true,Int.toNat_natCast];first|done|with_reducible rfl)|(simp[hi0,hin];first|done|with_reducible rfl)
    try simp only[Act.put,List.setIfInBounds_toArray,List.set_cons_zero,List.set_cons_succ]
    refine wpAnyL_take (i:=2) (v:=?_) (by rw[List.getElem?_toArray];rfl) (by decide +kernel) (by decide +kernel) (by decide +kernel) (by decide +kernel) (by decide +kernel) (fun _ _ _ h=>h) hS0 (Or.inl ⟨by rfl,?_⟩) ?_
    rotate_left
    ·intro wz hSz;obtain⟨z0,z1,z2⟩:=hSz;go_simp;first|done|with_reducible rfl|(simp only[hi0,hin,and_self,if_true,Int.toNat_natCast];first|done|with_reducible rfl)|(simp[hi0,hin];first|done|with_reducible rfl)
    try simp only[Act.put,List.setIfInBounds_toArray,List.set_cons_zero,List.set_cons_succ]
    refine wpAnyL_take (i:=3) (v:=?_) (by rw[List.getElem?_toArray];rfl) (by decide +kernel) (by decide +kernel) (by decide +kernel) (by decide +kernel) (by decide +kernel) (fun _ _ _ h=>h) hS0 (Or.inl ⟨by rfl,?_⟩) ?_
    rotate_left
    ·intro wz hSz;obtain⟨z0,z1,z2⟩:=hSz;go_simp;first|done|with_reducible rfl|(simp only[hi0,hin,and_self,if_true,Int.toNat_natCast];first|done|with_reducible rfl)|(simp[hi0,hin];first|done|with_reducible rfl)
    try simp only[Act.put,List.setIfInBounds_toArray,List.set_cons_zero,List.set_cons_succ]
    refine wpAnyL_take (i:=4) (v:=?_) (by rw[List.getElem?_toArray];rfl) (by decide +kernel) (by decide +kernel) (by decide +kernel) (by decide +kernel) (by decide +kernel) (fun _ _ _ h=>h) hS0 (Or.inl ⟨by rfl,?_⟩) ?_
    rotate_left
    ·intro wz hSz;obtain⟨z0,z1,z2⟩:=hSz;go_simp;first|done|with_reducible rfl|(simp only[hi0,hin,and_self,if_true,Int.toNat_natCast];first|done|with_reducible rfl)|(simp[hi0,hin];first|done|with_reducible rfl)
    try simp only[Act.put,List.setIfInBounds_toArray,List.set_cons_zero,List.set_cons_succ]
    refine wpAnyL_take (i:=5) (v:=?_) (by rw[List.getElem?_toArray];rfl) (by decide +kernel) (by decide +kernel) (by decide +kernel) (by decide +kernel) (by decide +kernel) (fun _ _ _ h=>h) hS0 (Or.inl ⟨by rfl,?_⟩) ?_
    rotate_left
    ·intro wz hSz;obtain⟨z0,z1,z2⟩:=hSz;go_simp;first|done|with_reducible rfl|(simp only[hi0,hin,and_self,if_true,Int.toNat_natCast];first|done|with_reducible rfl)|(simp[hi0,hin];first|done|with_reducible rfl)
    try simp only[Act.put,List.setIfInBounds_toArray,List.set_cons_zero,List.set_cons_succ]
    refine wpAnyL_take (i:=8) (v:=?_) (by rw[List.getElem?_toArray];rfl) (by decide +kernel) (by decide +kernel) (by decide +kernel) (by decide +kernel) (by decide +kernel) (fun _ _ _ h=>h) hS0 (Or.inl ⟨by rfl,?_⟩) ?_
    rotate_left
    ·intro wz hSz;obtain⟨z0,z1,z2⟩:=hSz;go_simp;first|done|with_reducible rfl|(simp only[hi0,hin,and_self,if_true,Int.toNat_natCast];first|done|with_reducible rfl)|(simp[hi0,hin];first|done|with_reducible rfl)
    try simp only[Act.put,List.setIfInBounds_toArray,List.set_cons_zero,List.set_cons_succ]
    refine wpAnyL_take (i:=9) (v:=?_) (by rw[List.getElem?_toArray];rfl) (by decide +kernel) (by decide +kernel) (by decide +kernel) (by decide +kernel) (by decide +kernel) (fun _ _ _ h=>h) hS0 (Or.inl ⟨by rfl,?_⟩) ?_
    rotate_left
    ·intro wz hSz;obtain⟨z0,z1,z2⟩:=hSz;go_simp;first|done|with_reducible rfl|(simp only[hi0,hin,and_self,if_true,Int.toNat_natCast];first|done|with_reducible rfl)|(simp[hi0,hin];first|done|with_reducible rfl)
    try simp only[Act.put,List.setIfInBounds_toArray,List.set_cons_zero,List.set_cons_succ]
    refine wpAnyL_take (i:=10) (v:=?_) (by rw[List.getElem?_toArray];rfl) (by decide +kernel) (by decide +kernel) (by decide +kernel) (by decide +kernel) (by decide +kernel) (fun _ _ _ h=>h) hS0 (Or.inl ⟨by rfl,?_⟩) ?_
    rotate_left
    ·intro wz hSz;obtain⟨z0,z1,z2⟩:=hSz;go_simp;first|done|with_reducible rfl|(simp only[hi0,hin,and_self,if_true,Int.toNat_natCast];first|done|with_reducible rfl)|(simp[hi0,hin];first|done|with_reducible rfl)
    try simp only[Act.put,List.setIfInBounds_toArray,List.set_cons_zero,List.set_cons_succ]
    refine wpAnyL_two (i:=6) (k:=11) (by kernel_rfl) (by rw[List.getElem?_toArray];rfl) (by rw[List.getElem?_toArray];rfl) (fun K hK=>?_) (fun K hK=>?_)
    ·have HK:Hid _:=hK
     clear hK
     go_simp
     obtain⟨w1,hw1⟩:∃w1,w1=wr.drew.alloc (.cells #[.int .i64 x] 3):=⟨_,rfl⟩
     have Gw1:Hid (Below wr.heap.size wr w1∧w1.heap.size=wr.heap.size+1∧w1.cell? ⟨wr.heap.size,0,none⟩=some (.int .i64 x)):=by
      rw[hw1];exact⟨(Below.refl _ _).drew.alloc (Nat.le_refl _) _,by simp,by have h:=two_cell wr.drew (.int .i64 x);exact h⟩
     have hw1':(wr.alloc (.cells #[.int .i64 x] 3)).drew=w1:=by rw[hw1];rfl
     first|rw[hw1']|rw[←hw1]
     refine HK.out _ _ (fun _=>HSk.out _ (Gw1.out.1.mono hbase)) ?_
     clear HK K
     try simp only[Act.put,List.setIfInBounds_toArray,List.set_cons_zero,List.set_cons_succ]
     clear hw1 hw1'
     refine wpAnyL_two (i:=7) (k:=11) (by kernel_rfl) (by rw[List.getElem?_toArray];rfl) (by rw[List.getElem?_toArray];rfl) (fun K hK=>?_) (fun K hK=>?_)
     ·refine step_append_int_at (by rfl) _ _ (by rfl) base _ lx (by rfl) (HI.out.1.ox.below Gw1.out.1 (fun b hb=>(HI.out.1.ox.lt b hb).2)) ⟨wr.heap.size,0,none⟩ 1 x (by rfl) Gw1.out.2.2 (by omega) (by have:=Gw1.out.2.1;omega) ?_
      intro gx cxx w2 hownw2 hgroww2 hatw2
      have Aw2:Hid (OwnI base (.slice (some ⟨gx,0,none⟩) (lx.length+1) cxx) (lx++[x]) w2∧w1.grownBy w2 vx.ownBlock∧(Value.ownBlock (.slice (some ⟨gx,0,none⟩) (lx.length+1) cxx)=vx.ownBlock∨Value.ownBlock (.slice (some ⟨gx,0,none⟩) (lx.length+1) cxx)=some w1.heap.size)):=⟨hownw2,hgroww2,hatw2⟩
      clear hownw2 hgroww2 hatw2
      have M2:Hid (Below base wr w2):=(HI.out.1.mid Gw1.out.1 Aw2.out.2.1 (Below.refl _ _)).2
      refine hK _ _ (fun _=>HSk.out _ (M2.out)) ?_
      clear hK K
      try simp only[Act.put,List.setIfInBounds_toArray,List.set_cons_zero,List.set_cons_succ]
      have hS2:=HSk.out _ M2.out
      refine wpAnyL_take (i:=13) (v:=?_) (by rw[List.getElem?_toArray];rfl) (by decide +kernel) (by decide +kernel) (by decide +kernel) (by decide +kernel) (by decide +kernel) (fun _ _ _ h=>h) hS2 (Or.inl ⟨by rfl,?_⟩) ?_
      rotate_left
      ·intro wz hSz;obtain⟨z0,z1,z2⟩:=hSz;go_simp;first|done|with_reducible rfl|(simp only[hi0,hin,and_self,if_true,Int.toNat_natCast];first|done|with_reducible rfl)|(simp[hi0,hin];first|done|with_reducible rfl)
      try simp only[Act.put,List.setIfInBounds_toArray,List.set_cons_zero,List.set_cons_succ]
      refine wpAnyL_one (i:=11) (by kernel_rfl) (by rw[List.getElem?_toArray];rfl) (fun K hK=>?_)
      have HK:Hid _:=hK
      clear hK
      go_simp
      obtain⟨w3,hw3⟩:∃w3,w3=w2.alloc (.cells #[.int .i64 yv] 3):=⟨_,rfl⟩
      have Gw3:Hid (Below w2.heap.size w2 w3∧w3.heap.size=w2.heap.size+1∧w3.cell? ⟨w2.heap.size,0,none⟩=some (.int .i64 yv)):=by
       rw[hw3];exact⟨(Below.refl _ _).alloc (Nat.le_refl _) _,by simp,by simp⟩
      first|rw[←hw3]|skip
      refine HK.out _ _ (fun _=>HSk.out _ ((HI.out.1.mid Gw1.out.1 Aw2.out.2.1 Gw3.out.1).2)) ?_
      clear HK K
      try simp only[Act.put,List.setIfInBounds_toArray,List.set_cons_zero,List.set_cons_succ]
      clear hw3
      refine wpAnyL_one (i:=12) (by kernel_rfl) (by rw[List.getElem?_toArray];rfl) (fun K hK=>?_)
      refine step_append_int_at (by rfl) _ _ (by rfl) base _ ly (by rfl) (HI.out.1.mid Gw1.out.1 Aw2.out.2.1 Gw3.out.1).1 ⟨w2.heap.size,0,none⟩ 1 yv (by rfl) Gw3.out.2.2 (by omega) (by have:=(HI.out.1.mid Gw1.out.1 Aw2.out.2.1 Gw3.out.1).2.size;omega) ?_
      intro gy cyy w4 hownw4 hgroww4 hatw4
      have Aw4:Hid (OwnI base (.slice (some ⟨gy,0,none⟩) (ly.length+1) cyy) (ly++[yv]) w4∧w3.grownBy w4 vy.ownBlock∧(Value.ownBlock (.slice (some ⟨gy,0,none⟩) (ly.length+1) cyy)=vy.ownBlock∨Value.ownBlock (.slice (some ⟨gy,0,none⟩) (ly.length+1) cyy)=some w3.heap.size)):=⟨hownw4,hgroww4,hatw4⟩
      clear hownw4 hgroww4 hatw4
      have HE:Hid (Below base wr w4∧OwnI base (.slice (some ⟨gx,0,none⟩) (lx.length+1) cxx) (lx++[x]) w4∧_):=HI.out.1.fin Gw1.out.1 Aw2.out.2.1 Gw3.out.1 Aw4.out.2.1 Aw2.out.1 rfl Aw2.out.2.2 Aw4.out.2.2
      refine hK _ _ (fun _=>HSk.out _ (HE.out.1)) ?_
      clear hK K
      try simp only[Act.put,List.setIfInBounds_toArray,List.set_cons_zero,List.set_cons_succ]
      have HF:Hid (HrS w.heap.size (w.heap.size+1) base F k (.slice (some ⟨gx,0,none⟩) (lx.length+1) cxx) (.slice (some ⟨gy,0,none⟩) (ly.length+1) cyy) (lx++[x]) (ly++[yv]) ((w4.setCell ⟨w.heap.size+1,2,none⟩ (.slice (some ⟨gx,0,none⟩) (lx.length+1) cxx)).setCell ⟨w.heap.size+1,3,none⟩ (.slice (some ⟨gy,0,none⟩) (ly.length+1) cyy))):=HI.out.1.put HE.out.1 HE.out.2.1 Aw4.out.1 HE.out.2.2
      have hbx4:=HI.out.1.box.below HE.out.1 HI.out.1.lB
      have c2:=hbx4.cell 2 (by omega)
      have f2:=hbx4.free 2
      have c3:=hbx4.cell 3 (by omega)
      have f3:=hbx4.free 3
      clear hbx4
      have HW:Hid (Below w.heap.size w ((w4.setCell ⟨w.heap.size+1,2,none⟩ (.slice (some ⟨gx,0,none⟩) (lx.length+1) cxx)).setCell ⟨w.heap.size+1,3,none⟩ (.slice (some ⟨gy,0,none⟩) (ly.length+1) cyy))):=((bel_in HI.out.2 HE.out.1 (by omega)).setCell (show w.heap.size≤w.heap.size+1 from Nat.le_succ _) _).setCell (show w.heap.size≤w.heap.size+1 from Nat.le_succ _) _
      refine wpAnyL_one (i:=14) (by kernel_rfl) (by rw[List.getElem?_toArray];rfl) (fun K hK=>?_)
      have HK:Hid _:=hK
      clear hK
      go_simp
      refine HK.out _ _ (fun h=>absurd (by simp) h) ?_
      clear HK K
      try simp only[Act.put,List.setIfInBounds_toArray,List.set_cons_zero,List.set_cons_succ]
      refine wpAnyL_one (i:=15) (by kernel_rfl) (by rw[List.getElem?_toArray];rfl) (fun K hK=>?_)
      have HK:Hid _:=hK
      clear hK
      go_simp
      refine HK.out _ _ (fun h=>absurd (by simp) h) ?_
      clear HK K
      try simp only[Act.put,List.setIfInBounds_toArray,List.set_cons_zero,List.set_cons_succ]
      refine wpAnyL_one (i:=16) (by kernel_rfl) (by rw[List.getElem?_toArray];rfl) (fun K hK=>?_)
      have HK:Hid _:=hK
      clear hK
      go_simp
      refine HK.out _ _ (fun h=>absurd (by simp) h) ?_
      clear HK K
      try simp only[Act.put,List.setIfInBounds_toArray,List.set_cons_zero,List.set_cons_succ]
      refine wpAnyL_done (by kernel_rfl) (NoPanic.normal ?_)
      clear c2 f2 c3 f3
      go_wp2
      go_roundw
      case rel=>exact⟨r+1,_,_,by omega,by go_num,by rw[HR.out.1,HR.out.2, ←hbs];exact HF.out,HW.out⟩
      case measure=>simp[intOf];omega
     ·have HK:Hid _:=hK
      clear hK
      go_simp
      obtain⟨w2,hw2⟩:∃w2,w2=w1.alloc (.cells #[.int .i64 yv] 3):=⟨_,rfl⟩
      have Gw2:Hid (Below w1.heap.size w1 w2∧w2.heap.size=w1.heap.size+1∧w2.cell? ⟨w1.heap.size,0,none⟩=some (.int .i64 yv)):=by
       rw[hw2];exact⟨(Below.refl _ _).alloc (Nat.le_refl _) _,by simp,by simp⟩
      first|rw[←hw2]|skip
      refine HK.out _ _ (fun _=>HSk.out _ ((bel_up' Gw1.out.1 Gw2.out.1).mono hbase)) ?_
      clear HK K
      try simp only[Act.put,List.setIfInBounds_toArray,List.set_cons_zero,List.set_cons_succ]
      clear hw2
      have G12:Hid (Below wr.heap.size wr w2∧w2.cell? ⟨wr.heap.size,0,none⟩=some (.int .i64 x)):=⟨bel_up' Gw1.out.1 Gw2.out.1,((bcell Gw2.out.1).1 wr.heap.size 0 (by have:=Gw1.out.2.1;omega)).trans Gw1.out.2.2⟩
      refine wpAnyL_one (i:=7) (by kernel_rfl) (by rw[List.getElem?_toArray];rfl) (fun K hK=>?_)
      refine step_append_int_at (by rfl) _ _ (by rfl) base _ lx (by rfl) (HI.out.1.ox.below G12.out.1 (fun b hb=>(HI.out.1.ox.lt b hb).2)) ⟨wr.heap.size,0,none⟩ 1 x (by rfl) G12.out.2 (by omega) (by have:=G12.out.1.size;omega) ?_
      intro gx cxx w3 hownw3 hgroww3 hatw3
      have Aw3:Hid (OwnI base (.slice (some ⟨gx,0,none⟩) (lx.length+1) cxx) (lx++[x]) w3∧w2.grownBy w3 vx.ownBlock∧(Value.ownBlock (.slice (some ⟨gx,0,none⟩) (lx.length+1) cxx)=vx.ownBlock∨Value.ownBlock (.slice (some ⟨gx,0,none⟩) (lx.length+1) cxx)=some w2.heap.size)):=⟨hownw3,hgroww3,hatw3⟩
      clear hownw3 hgroww3 hatw3
      have M3:Hid (Below base wr w3):=(HI.out.1.mid G12.out.1 Aw3.out.2.1 (Below.refl _ _)).2
      refine hK _ _ (fun _=>HSk.out _ (M3.out)) ?_
      clear hK K
      try simp only[Act.put,List.setIfInBounds_toArray,List.set_cons_zero,List.set_cons_succ]
      have hS2:=HSk.out _ M3.out
      refine wpAnyL_take (i:=13) (v:=?_) (by rw[List.getElem?_toArray];rfl) (by decide +kernel) (by decide +kernel) (by decide +kernel) (by decide +kernel) (by decide +kernel) (fun _ _ _ h=>h) hS2 (Or.inl ⟨by rfl,?_⟩) ?_
      rotate_left
      ·intro wz hSz;obtain⟨z0,z1,z2⟩:=hSz;go_simp;first|done|with_reducible rfl|(simp only[hi0,hin,and_self,if_true,Int.toNat_natCast];first|done|with_reducible rfl)|(simp[hi0,hin];first|done|with_reducible rfl)
      try simp only[Act.put,List.setIfInBounds_toArray,List.set_cons_zero,List.set_cons_succ]
      refine wpAnyL_one (i:=12) (by kernel_rfl) (by rw[List.getElem?_toArray];rfl) (fun K hK=>?_)
      refine step_append_int_at (by rfl) _ _ (by rfl) base _ ly (by rfl) (HI.out.1.mid G12.out.1 Aw3.out.2.1 (Below.refl _ _)).1 ⟨w1.heap.size,0,none⟩ 1 yv (by rfl) (Aw3.out.2.1.cell Gw2.out.2.2 (fun e=>by have h:w1.heap.size<wr.heap.size:=(HI.out.1.ox.lt _ e.symm).2;have:=Gw1.out.2.1;omega)) (by omega) (by have:=M3.out.size;omega) ?_
      intro gy cyy w4 hownw4 hgroww4 hatw4
      have Aw4:Hid (OwnI base (.slice (some ⟨gy,0,none⟩) (ly.length+1) cyy) (ly++[yv]) w4∧w3.grownBy w4 vy.ownBlock∧(Value.ownBlock (.slice (some ⟨gy,0,none⟩) (ly.length+1) cyy)=vy.ownBlock∨Value.ownBlock (.slice (some ⟨gy,0,none⟩) (ly.length+1) cyy)=some w3.heap.size)):=⟨hownw4,hgroww4,hatw4⟩
      clear hownw4 hgroww4 hatw4
      have HE:Hid (Below base wr w4∧OwnI base (.slice (some ⟨gx,0,none⟩) (lx.length+1) cxx) (lx++[x]) w4∧_):=HI.out.1.fin G12.out.1 Aw3.out.2.1 (Below.refl _ _) Aw4.out.2.1 Aw3.out.1 rfl Aw3.out.2.2 Aw4.out.2.2
      refine hK _ _ (fun _=>HSk.out _ (HE.out.1)) ?_
      clear hK K
      try simp only[Act.put,List.setIfInBounds_toArray,List.set_cons_zero,List.set_cons_succ]
      have HF:Hid (HrS w.heap.size (w.heap.size+1) base F k (.slice (some ⟨gx,0,none⟩) (lx.length+1) cxx) (.slice (some ⟨gy,0,none⟩) (ly.length+1) cyy) (lx++[x]) (ly++[yv]) ((w4.setCell ⟨w.heap.size+1,2,none⟩ (.slice (some ⟨gx,0,none⟩) (lx.length+1) cxx)).setCell ⟨w.heap.size+1,3,none⟩ (.slice (some ⟨gy,0,none⟩) (ly.length+1) cyy))):=HI.out.1.put HE.out.1 HE.out.2.1 Aw4.out.1 HE.out.2.2
      have hbx4:=HI.out.1.box.below HE.out.1 HI.out.1.lB
      have c2:=hbx4.cell 2 (by omega)
      have f2:=hbx4.free 2
      have c3:=hbx4.cell 3 (by omega)
      have f3:=hbx4.free 3
      clear hbx4
      have HW:Hid (Below w.heap.size w ((w4.setCell ⟨w.heap.size+1,2,none⟩ (.slice (some ⟨gx,0,none⟩) (lx.length+1) cxx)).setCell ⟨w.heap.size+1,3,none⟩ (.slice (some ⟨gy,0,none⟩) (ly.length+1) cyy))):=((bel_in HI.out.2 HE.out.1 (by omega)).setCell (show w.heap.size≤w.heap.size+1 from Nat.le_succ _) _).setCell (show w.heap.size≤w.heap.size+1 from Nat.le_succ _) _
      refine wpAnyL_one (i:=14) (by kernel_rfl) (by rw[List.getElem?_toArray];rfl) (fun K hK=>?_)
      have HK:Hid _:=hK
      clear hK
      go_simp
      refine HK.out _ _ (fun h=>absurd (by simp) h) ?_
      clear HK K
      try simp only[Act.put,List.setIfInBounds_toArray,List.set_cons_zero,List.set_cons_succ]
      refine wpAnyL_one (i:=15) (by kernel_rfl) (by rw[List.getElem?_toArray];rfl) (fun K hK=>?_)
      have HK:Hid _:=hK
      clear hK
      go_simp
      refine HK.out _ _ (fun h=>absurd (by simp) h) ?_
      clear HK K
      try simp only[Act.put,List.setIfInBounds_toArray,List.set_cons_zero,List.set_cons_succ]
      refine wpAnyL_one (i:=16) (by kernel_rfl) (by rw[List.getElem?_toArray];rfl) (fun K hK=>?_)
      have HK:Hid _:=hK
      clear hK
      go_simp
      refine HK.out _ _ (fun h=>absurd (by simp) h) ?_
      clear HK K
      try simp only[Act.put,List.setIfInBounds_toArray,List.set_cons_zero,List.set_cons_succ]
      refine wpAnyL_done (by kernel_rfl) (NoPanic.normal ?_)
      clear c2 f2 c3 f3
      go_wp2
      go_roundw
      case rel=>exact⟨r+1,_,_,by omega,by go_num,by rw[HR.out.1,HR.out.2, ←hbs];exact HF.out,HW.out⟩
      case measure=>simp[intOf];omega
    ·have HK:Hid _:=hK
     clear hK
     go_simp
     obtain⟨w1,hw1⟩:∃w1,w1=wr.drew.alloc (.cells #[.int .i64 yv] 3):=⟨_,rfl⟩
     have Gw1:Hid (Below wr.heap.size wr w1∧w1.heap.size=wr.heap.size+1∧w1.cell? ⟨wr.heap.size,0,none⟩=some (.int .i64 yv)):=by
      rw[hw1];exact⟨(Below.refl _ _).drew.alloc (Nat.le_refl _) _,by simp,by have h:=two_cell wr.drew (.int .i64 yv);exact h⟩
     have hw1':(wr.alloc (.cells #[.int .i64 yv] 3)).drew=w1:=by rw[hw1];rfl
     first|rw[hw1']|rw[←hw1]
     refine HK.out _ _ (fun _=>HSk.out _ (Gw1.out.1.mono hbase)) ?_
     clear HK K
     try simp only[Act.put,List.setIfInBounds_toArray,List.set_cons_zero,List.set_cons_succ]
     clear hw1 hw1'
     refine wpAnyL_one (i:=6) (by kernel_rfl) (by rw[List.getElem?_toArray];rfl) (fun K hK=>?_)
     have HK:Hid _:=hK
     clear hK
     go_simp
     obtain⟨w2,hw2⟩:∃w2,w2=w1.alloc (.cells #[.int .i64 x] 3):=⟨_,rfl⟩
     have Gw2:Hid (Below w1.heap.size w1 w2∧w2.heap.size=w1.heap.size+1∧w2.cell? ⟨w1.heap.size,0,none⟩=some (.int .i64 x)):=by
      rw[hw2];exact⟨(Below.refl _ _).alloc (Nat.le_refl _) _,by simp,by simp⟩
     first|rw[←hw2]|skip
     refine HK.out _ _ (fun _=>HSk.out _ ((bel_up' Gw1.out.1 Gw2.out.1).mono hbase)) ?_
     clear HK K
     try simp only[Act.put,List.setIfInBounds_toArray,List.set_cons_zero,List.set_cons_succ]
     clear hw2
     have G12:Hid (Below wr.heap.size wr w2∧w2.cell? ⟨wr.heap.size,0,none⟩=some (.int .i64 yv)):=⟨bel_up' Gw1.out.1 Gw2.out.1,((bcell Gw2.out.1).1 wr.heap.size 0 (by have:=Gw1.out.2.1;omega)).trans Gw1.out.2.2⟩
     refine wpAnyL_one (i:=7) (by kernel_rfl) (by rw[List.getElem?_toArray];rfl) (fun K hK=>?_)
     refine step_append_int_at (by rfl) _ _ (by rfl) base _ lx (by rfl) (HI.out.1.ox.below G12.out.1 (fun b hb=>(HI.out.1.ox.lt b hb).2)) ⟨w1.heap.size,0,none⟩ 1 x (by rfl) Gw2.out.2.2 (by omega) (by have:=G12.out.1.size;omega) ?_
     intro gx cxx w3 hownw3 hgroww3 hatw3
     have Aw3:Hid (OwnI base (.slice (some ⟨gx,0,none⟩) (lx.length+1) cxx) (lx++[x]) w3∧w2.grownBy w3 vx.ownBlock∧(Value.ownBlock (.slice (some ⟨gx,0,none⟩) (lx.length+1) cxx)=vx.ownBlock∨Value.ownBlock (.slice (some ⟨gx,0,none⟩) (lx.length+1) cxx)=some w2.heap.size)):=⟨hownw3,hgroww3,hatw3⟩
     clear hownw3 hgroww3 hatw3
     have M3:Hid (Below base wr w3):=(HI.out.1.mid G12.out.1 Aw3.out.2.1 (Below.refl _ _)).2
     refine hK _ _ (fun _=>HSk.out _ (M3.out)) ?_
     clear hK K
     try simp only[Act.put,List.setIfInBounds_toArray,List.set_cons_zero,List.set_cons_succ]
     have hS2:=HSk.out _ M3.out
     refine wpAnyL_take (i:=13) (v:=?_) (by rw[List.getElem?_toArray];rfl) (by decide +kernel) (by decide +kernel) (by decide +kernel) (by decide +kernel) (by decide +kernel) (fun _ _ _ h=>h) hS2 (Or.inl ⟨by rfl,?_⟩) ?_
     rotate_left
     ·intro wz hSz;obtain⟨z0,z1,z2⟩:=hSz;go_simp;first|done|with_reducible rfl|(simp only[hi0,hin,and_self,if_true,Int.toNat_natCast];first|done|with_reducible rfl)|(simp[hi0,hin];first|done|with_reducible rfl)
     try simp only[Act.put,List.setIfInBounds_toArray,List.set_cons_zero,List.set_cons_succ]
     refine wpAnyL_one (i:=12) (by kernel_rfl) (by rw[List.getElem?_toArray];rfl) (fun K hK=>?_)
     refine step_append_int_at (by rfl) _ _ (by rfl) base _ ly (by rfl) (HI.out.1.mid G12.out.1 Aw3.out.2.1 (Below.refl _ _)).1 ⟨wr.heap.size,0,none⟩ 1 yv (by rfl) (Aw3.out.2.1.cell G12.out.2 (fun e=>by have h:wr.heap.size<wr.heap.size:=(HI.out.1.ox.lt _ e.symm).2;omega)) (by omega) (by have:=M3.out.size;omega) ?_
     intro gy cyy w4 hownw4 hgroww4 hatw4
     have Aw4:Hid (OwnI base (.slice (some ⟨gy,0,none⟩) (ly.length+1) cyy) (ly++[yv]) w4∧w3.grownBy w4 vy.ownBlock∧(Value.ownBlock (.slice (some ⟨gy,0,none⟩) (ly.length+1) cyy)=vy.ownBlock∨Value.ownBlock (.slice (some ⟨gy,0,none⟩) (ly.length+1) cyy)=some w3.heap.size)):=⟨hownw4,hgroww4,hatw4⟩
     clear hownw4 hgroww4 hatw4
     have HE:Hid (Below base wr w4∧OwnI base (.slice (some ⟨gx,0,none⟩) (lx.length+1) cxx) (lx++[x]) w4∧_):=HI.out.1.fin G12.out.1 Aw3.out.2.1 (Below.refl _ _) Aw4.out.2.1 Aw3.out.1 rfl Aw3.out.2.2 Aw4.out.2.2
     refine hK _ _ (fun _=>HSk.out _ (HE.out.1)) ?_
     clear hK K
     try simp only[Act.put,List.setIfInBounds_toArray,List.set_cons_zero,List.set_cons_succ]
     have HF:Hid (HrS w.heap.size (w.heap.size+1) base F k (.slice (some ⟨gx,0,none⟩) (lx.length+1) cxx) (.slice (some ⟨gy,0,none⟩) (ly.length+1) cyy) (lx++[x]) (ly++[yv]) ((w4.setCell ⟨w.heap.size+1,2,none⟩ (.slice (some ⟨gx,0,none⟩) (lx.length+1) cxx)).setCell ⟨w.heap.size+1,3,none⟩ (.slice (some ⟨gy,0,none⟩) (ly.length+1) cyy))):=HI.out.1.put HE.out.1 HE.out.2.1 Aw4.out.1 HE.out.2.2
     have hbx4:=HI.out.1.box.below HE.out.1 HI.out.1.lB
     have c2:=hbx4.cell 2 (by omega)
     have f2:=hbx4.free 2
     have c3:=hbx4.cell 3 (by omega)
     have f3:=hbx4.free 3
     clear hbx4
     have HW:Hid (Below w.heap.size w ((w4.setCell ⟨w.heap.size+1,2,none⟩ (.slice (some ⟨gx,0,none⟩) (lx.length+1) cxx)).setCell ⟨w.heap.size+1,3,none⟩ (.slice (some ⟨gy,0,none⟩) (ly.length+1) cyy))):=((bel_in HI.out.2 HE.out.1 (by omega)).setCell (show w.heap.size≤w.heap.size+1 from Nat.le_succ _) _).setCell (show w.heap.size≤w.heap.size+1 from Nat.le_succ _) _
     refine wpAnyL_one (i:=14) (by kernel_rfl) (by rw[List.getElem?_toArray];rfl) (fun K hK=>?_)
     have HK:Hid _:=hK
     clear hK
     go_simp
     refine HK.out _ _ (fun h=>absurd (by simp) h) ?_
     clear HK K
     try simp only[Act.put,List.setIfInBounds_toArray,List.set_cons_zero,List.set_cons_succ]
     refine wpAnyL_one (i:=15) (by kernel_rfl) (by rw[List.getElem?_toArray];rfl) (fun K hK=>?_)
     have HK:Hid _:=hK
     clear hK
     go_simp
     refine HK.out _ _ (fun h=>absurd (by simp) h) ?_
     clear HK K
     try simp only[Act.put,List.setIfInBounds_toArray,List.set_cons_zero,List.set_cons_succ]
     refine wpAnyL_one (i:=16) (by kernel_rfl) (by rw[List.getElem?_toArray];rfl) (fun K hK=>?_)
     have HK:Hid _:=hK
     clear hK
     go_simp
     refine HK.out _ _ (fun h=>absurd (by simp) h) ?_
     clear HK K
     try simp only[Act.put,List.setIfInBounds_toArray,List.set_cons_zero,List.set_cons_succ]
     refine wpAnyL_done (by kernel_rfl) (NoPanic.normal ?_)
     clear c2 f2 c3 f3
     go_wp2
     go_roundw
     case rel=>exact⟨r+1,_,_,by omega,by go_num,by rw[HR.out.1,HR.out.2, ←hbs];exact HF.out,HW.out⟩
     case measure=>simp[intOf];omega
  ·have hrb:¬(r:Int)<(n:Int):=by omega
   have hre:r=n:=by omega
   subst hre
   obtain⟨f8,h8⟩:=HI.out.1.res
   have hb9:=HI.out.1.box
   obtain⟨lx,hlx⟩:∃lx,lx=hrL xs y r:=⟨_,rfl⟩
   obtain⟨ly,hly⟩:∃ly,ly=hrL y y r:=⟨_,rfl⟩
   rw[←hlx, ←hly]at HI
   obtain⟨xo',xc',hvx⟩:=HI.out.1.ox.form
   obtain⟨yo',yc',hvy⟩:=HI.out.1.oy.form
   obtain⟨nx,hnx⟩:∃nx,nx=lx.length:=⟨_,rfl⟩
   obtain⟨ny,hny⟩:∃ny,ny=ly.length:=⟨_,rfl⟩
   rw[←hnx]at hvx
   rw[←hny]at hvy
   subst hvx hvy
   have c0:wr.cell? ⟨w.heap.size+1,0,none⟩=some (.pointer (some ⟨F,0,none⟩)):=hb9.cell 0 (by omega)
   have c1:wr.cell? ⟨w.heap.size+1,1,none⟩=some (.int .i64 k):=hb9.cell 1 (by omega)
   have c2:wr.cell? ⟨w.heap.size+1,2,none⟩=some (.slice xo' nx xc'):=hb9.cell 2 (by omega)
   have c3:wr.cell? ⟨w.heap.size+1,3,none⟩=some (.slice yo' ny yc'):=hb9.cell 3 (by omega)
   have HZ:Hid (lx=hrL xs y r∧ly=hrL y y r):=⟨hlx,hly⟩
   clear hlx hly hnx hny
   have d0:=h8.cell 0 (by omega)
   have d1:=h8.cell 1 (by omega)
   have d2:=h8.cell 2 (by omega)
   have d3:=h8.cell 3 (by omega)
   have e0:=h8.free 0
   have e1:=h8.free 1
   have e2:=h8.free 2
   have e3:=h8.free 3
   clear h8 hb9
   go_wp2
   obtain⟨w9,hw9⟩:∃w9,w9=(((wr.setCell ⟨w.heap.size,0,none⟩ (.pointer (some ⟨F,0,none⟩))).setCell ⟨w.heap.size,1,none⟩ (.int .i64 k)).setCell ⟨w.heap.size,2,none⟩ (.slice xo' nx xc')).setCell ⟨w.heap.size,3,none⟩ (.slice yo' ny yc'):=⟨_,rfl⟩
   obtain⟨f8,h8⟩:=HI.out.1.res
   have h9:RowF w.heap.size 4 151 (upd (upd (upd (upd f8 0 (.pointer (some ⟨F,0,none⟩))) 1 (.int .i64 k)) 2 (.slice xo' nx xc')) 3 (.slice yo' ny yc')) w9:=by
    rw[hw9];exact(((h8.store 0 _).store 1 _).store 2 _).store 3 _
   have q0:w9.cell? ⟨w.heap.size,0,none⟩=some (.pointer (some ⟨F,0,none⟩)):=h9.cell 0 (by omega)
   have q1:w9.cell? ⟨w.heap.size,1,none⟩=some (.int .i64 k):=h9.cell 1 (by omega)
   have q2:w9.cell? ⟨w.heap.size,2,none⟩=some (.slice xo' nx xc'):=h9.cell 2 (by omega)
   have q3:w9.cell? ⟨w.heap.size,3,none⟩=some (.slice yo' ny yc'):=h9.cell 3 (by omega)
   have H9:Hid (OwnI w.heap.size (.slice xo' nx xc') lx w9∧OwnI w.heap.size (.slice yo' ny yc') ly w9∧Below w.heap.size w w9):=by
    have hl8:=HI.out.1.l8
    rw[hw9]
    exact⟨((((HI.out.1.ox.setFar hl8).setFar hl8).setFar hl8).setFar hl8).mono (by omega),((((HI.out.1.oy.setFar hl8).setFar hl8).setFar hl8).setFar hl8).mono (by omega),(((HI.out.2.setCell (Nat.le_refl _) _).setCell (Nat.le_refl _) _).setCell (Nat.le_refl _) _).setCell (Nat.le_refl _) _⟩
   rw[←hw9]
   clear hw9 h8 h9 c0 c1 c2 c3 d0 d1 d2 d3 e0 e1 e2 e3
   refine bodyPost_ret (v:= .agg #[.pointer (some ⟨F,0,none⟩),.int .i64 k,.slice xo' nx xc',.slice yo' ny yc']) (by simp[results,Tryz.results102,go_sem,q0,q1,q2,q3]) rfl ?_
   exact⟨_,_,rfl,by rw[←HZ.out.1];exact H9.out.1,by rw[←HZ.out.2];exact H9.out.2.1,H9.out.2.2⟩
def nal(D:FD)(c:Nat→Nat)(i:Nat):Nat→Nat:=elc D (fun _=>true) c i
theorem ct_true:∀i,ct (fun _=>true) i=i
 | 0=>rfl
 |i+1=>by show ct (fun _=>true) i+1=_;rw[ct_true i]
theorem nal_ok {D:FD}(F:Fld D){c:Nat→Nat}{n:Nat}(hc:∀i,i<n→c i<D.q)(i:Nat)(hi:i≤n):El D (nal D c i)∧Bd (i+1) (nal D c i)∧nal D c i i=1∧∀j,j<i→D.ev (nal D c i) (c j) (i+1)=0:=by
 have h:=elc_ok F (err:=fun _=>true) hc i hi
 rw[ct_true]at h
 exact⟨h.1,h.2.1,h.2.2.1,fun j hj=>h.2.2.2 j hj rfl⟩
theorem nal_succ {D:FD}(F:Fld D){c:Nat→Nat}{n:Nat}(hc:∀i,i<n→c i<D.q){i:Nat}(hi:i<n):pmul D (i+1) (nal D c i) (xmr D (c i))=nal D c (i+1):=by
 obtain⟨h1,h2,_,_⟩:=nal_ok F hc i (by omega)
 rw[pmul_comm F h1 (xmr_el F (hc i hi)) h2 (xmr_bd _)]
 show pmul D 2 (xmr D (c i)) (elc D (fun _=>true) c i)=if true=true then pmul D 2 (xmr D (c i)) (elc D (fun _=>true) c i)else elc D (fun _=>true) c i
 rw[if_pos rfl]
theorem duo_cell(w:World)(v u:Value):(w.alloc (.cells #[v,u] 3)).cell? ⟨w.heap.size,0,none⟩=some v∧(w.alloc (.cells #[v,u] 3)).cell? ⟨w.heap.size,1,none⟩=some u:=⟨by simp,by simp⟩
def NaI(D:FD)(n:Nat)(c:Nat→Nat)(w:World)(vo vi:Value)(wr:World):Prop:=∃(i:Nat) (ao:Option Addr) (ca:Nat),i≤n∧vo = .slice ao (i+1:Nat) ca∧vi = .int .i64 (i:Nat)∧Hid (Arg ao (i+1) ca (fun j=>((nal D c i j:Nat):Int)) wr∧Below w.heap.size w wr)
set_option maxHeartbeats 4000000 in
set_option maxRecDepth 100000 in
theorem noughtAt_any {F T:Nat}{D:FD}(hD:D∈fieldsL){g:Nat→Value}{w:World}(hat:FAt F T D g w){xo:Option Addr}{n cx:Nat}{c:Nat→Nat}(hX:Sl xo n c w)(hlx:LtB xo w.heap.size)(hc:∀i, i<n→c i<D.q)(hn:n≤64) :
  Calls Tryz.prog 106 #[.pointer (some ⟨F,0,none⟩),.slice xo n cx] w fun e w'=>∃ao ca,e = .returned (.slice ao (n+1:Nat) ca)∧Arg ao (n+1) ca (fun j=>((nal D c n j:Nat):Int)) w'∧Below w.heap.size w w':=by
 have HF:Hid (FAt F T D g w∧D∈fieldsL∧Sl xo n c w∧LtB xo w.heap.size∧∀i,i<n→c i<D.q):=⟨hat,hD,hX,hlx,hc⟩
 obtain⟨w0,hw0⟩:∃w0,w0=w.alloc (.cells #[.int .i64 1] 3):=⟨_,rfl⟩
 have H0:Hid (Arg (some ⟨w.heap.size,0,none⟩) 1 1 (fun j=>((nal D c 0 j:Nat):Int)) w0∧Below w.heap.size w w0):=by
  rw[hw0]
  refine⟨⟨fun j hj=>⟨w.heap.size,0,rfl,?_⟩,fun x hx=>by cases hx;simp,by omega,fun e=>(by cases e),by omega,by omega⟩,(Below.refl _ _).alloc (Nat.le_refl _) _⟩
  have:j=0:=by omega
  subst this
  show(w.alloc (.cells #[.int .i64 1] 3)).cell? ⟨w.heap.size,0,none⟩=some (Value.int .i64 ((1:Nat):Int))
  exact two_cell w _
 clear hat hD hX hlx hc
 go_enter Tryz.func106,Tryz.ntmps106
 go_wp2
 rw[←hw0]
 clear hw0
 go_loopw [5,11] (fun vo vi wr=>NaI D n c w vo vi wr) (fun _ vi _=>n-(intOf vi).toNat)
 case atStart=>exact⟨0,_,_,by omega,rfl,rfl,H0.out⟩
 case round=>
  obtain⟨i,ao,ca,hi,rfl,rfl,HI⟩:=hrel
  rename World=>wr
  clear H0
  by_cases hlt:i<n
  ·have hib:(i:Int)<(n:Int):=by omega
   have hi0:(0:Int)≤(i:Int):=by omega
   obtain⟨bx,ox,hxo,cx0⟩:=(HF.out.2.2.1.below HI.out.2 HF.out.2.2.2.1) i hlt
   subst hxo
   obtain⟨x,hx⟩:∃x,x=c i:=⟨_,rfl⟩
   rw[←hx]at cx0
   have hatr:=HF.out.1.below HI.out.2 HF.out.1.ltF HF.out.1.ltT
   have HS:Hid (Calls Tryz.prog 105 #[.pointer (some ⟨F,0,none⟩)] wr fun e w'=>e = .returned (.int .i64 D.q)∧w'=wr):=size_any hatr
   have hxq:x<D.q:=by rw[hx];exact HF.out.2.2.2.2 i hlt
   have HNg:Hid (Calls Tryz.prog 119 #[.pointer (some ⟨F,0,none⟩),.int .i64 (x:Nat)] wr fun e w'=>e = .returned (.int .i64 (D.ng x:Nat))∧∃n,w'=wr.drewN n):=neg_nat HF.out.2.1 hatr hxq
   have HX:Hid (x=c i∧x<D.q):=⟨hx,hxq⟩
   clear hx hatr hxq
   go_wp2_with fail
   refine HS.out.mono ?_
   rintro e w' ⟨rfl,hw⟩
   have hw:=hw.symm
   subst hw
   go_wp2_with fail
   refine HNg.out.mono ?_
   rintro e w2 ⟨rfl,d,rfl⟩
   obtain⟨w3,hw3⟩:∃w3,w3=(wr.drewN d).alloc (.cells #[.int .i64 (D.ng x:Nat),.int .i64 1] 3):=⟨_,rfl⟩
   have H3:Hid (Below wr.heap.size wr w3∧Arg (some ⟨wr.heap.size,0,none⟩) 2 2 (fun j=>((xmr D x j:Nat):Int)) w3):=by
    rw[hw3]
    refine⟨(below_drewN2 (Below.refl _ _) d).alloc (Nat.le_refl _) _,fun j hj=>⟨wr.heap.size,0,rfl,?_⟩,fun y hy=>by cases hy;simp,by omega,fun e=>(by cases e),by omega,by omega⟩
    have:j=0∨j=1:=by omega
    rcases this with rfl|rfl
    ·exact(duo_cell (wr.drewN d) _ _).1
    ·exact(duo_cell (wr.drewN d) _ _).2
   have HM:Hid (Calls Tryz.prog 109 #[.int .i64 D.q,.slice ao (i+1:Nat) ca,.slice (some ⟨wr.heap.size,0,none⟩) 2 2] w3 fun e w'=>∃mo mc,e = .returned (.tuple #[.slice mo (i+1+1:Nat) mc,.int .i64 0])∧Arg mo (i+1+1) mc (fun j=>((nal D c (i+1) j:Nat):Int)) w'∧Below w3.heap.size w3 w'):=by
    have F':=fld HF.out.2.1
    obtain⟨n1,n2,n3,_⟩:=nal_ok F' HF.out.2.2.2.2 i hi
    obtain⟨m1,m2,m3,_⟩:=nal_ok F' HF.out.2.2.2.2 (i+1) (by omega)
    have hxe:=xmr_el F' HX.out.2
    have z1:zc (i+1) (fun j=>((nal D c i j:Nat):Int))=nal D c i:=zc_nat n2
    have z2:zc 2 (fun j=>((xmr D x j:Nat):Int))=xmr D x:=zc_nat (xmr_bd x)
    have hck:D.chk2 (i+1) (fun j=>((nal D c i j:Nat):Int)) 2 (fun j=>((xmr D x j:Nat):Int))=0:=by
     unfold FD.chk2
     rw[if_pos (chk_nat n1 (by omega))]
     exact chk_nat hxe (by omega)
    have d1:dgn (nal D c i) (i+1)=i+1:=dgn_self (fun _=>by rw[Nat.add_sub_cancel,n3];omega)
    have d2:dgn (xmr D x) 2=2:=dgn_self (fun _=>by show xmr D x 1≠0;unfold xmr;simp)
    have hp:pmul D (i+1) (nal D c i) (xmr D x)=nal D c (i+1):=by rw[HX.out.1];exact nal_succ F' HF.out.2.2.2.2 hlt
    refine(pmul_any HF.out.2.1 (HI.out.1.below H3.out.1) H3.out.2).mono ?_
    rw[z1,z2,d1,d2,hp]
    rintro e w' ⟨hb',⟨_,_,v,rfl,hv⟩|⟨_,hbad,_⟩|⟨hbad,_⟩⟩
    ·have d3:dgn (nal D c (i+1)) (i+1+2)=i+1+1:=dgn_is (m2.mono (by omega)) m2 (fun _=>by rw[Nat.add_sub_cancel,m3];omega)
     rw[d3]at hv
     obtain⟨mo,mc,rfl,hA⟩:=hv.arg (by omega)
     exact⟨mo,mc,rfl,hA,hb'⟩
    ·omega
    ·exact absurd hck hbad
   go_wp2_with fail
   rw[←hw3]
   clear hw3
   refine HM.out.mono ?_
   rintro e w4 ⟨mo,mc,rfl,hA4,hb4⟩
   have H4:Hid (Arg mo (i+1+1) mc (fun j=>((nal D c (i+1) j:Nat):Int)) w4∧Below w.heap.size w w4):=⟨hA4,bel_up' (bel_up' HI.out.2 H3.out.1) hb4⟩
   clear hA4 hb4
   go_wp2
   go_roundw
   case rel=>exact⟨i+1,mo,mc,by omega,rfl,by go_num,H4.out⟩
   case measure=>simp[intOf];omega
  ·have hib:¬(i:Int)<(n:Int):=by omega
   have hie:i=n:=by omega
   subst hie
   go_wp2
   go_ret
   exact⟨ao,ca,rfl,HI.out.1,HI.out.2⟩
theorem quo_len {D:FD}(hD:D∈fieldsL){A B:Nat→Nat}{lA lB:Nat}(eA:El D A)(eB:El D B)(tA:Trd lA A)(tB:Trd lB B)(h0:lB≠0)(hl:lB≤lA) :
  El D (D.quo A lA B lB)∧Trd (lA-lB+1) (D.quo A lA B lB)∧El D (D.rst A lA B lB)∧Trd (dgn (D.rst A lA B lB) lA) (D.rst A lA B lB)∧dgn (D.rst A lA B lB) lA<lB∧A=padd D (pmul D (lA-lB+1) (D.quo A lA B lB) B) (D.rst A lA B lB)∧dgn (D.quo A lA B lB) (lA-(dgn B lB-1))=lA-lB+1:=by
 have F:=fld hD
 have dB:dgn B lB=lB:=dgn_self tB.2
 obtain⟨l,hl'⟩:∃l,lB=l+1:=⟨lB-1,by omega⟩
 have hb:Bd (l+1) B:=by rw[←hl'];exact tB.1
 have ht:B l≠0:=by have:=tB.2 h0;rwa [hl',Nat.add_sub_cancel]at this
 have hi:D.mul (B l) (D.iv (B l))=1:=iv_is hD (eB l) ht
 unfold FD.quo FD.rst
 rw[dB,hl',Nat.add_sub_cancel]
 obtain⟨m,hm⟩:∃m,lA=m+1+l:=⟨lA-(l+1),by omega⟩
 rw[show lA-l=m+1 by omega,show lA-(l+1)+1=m+1 by omega]
 have i:=div_is F (b:=B) (l:=l) (inv:=D.iv (B l)) (m+1) eA
 have hR:Bd l (divR D B l (D.iv (B l)) (m+1) A):=divR_bd F eB hb hi (m+1) eA (by rw[←hm];exact tA.1)
 have hQb:=divQ_bd (D:=D) (b:=B) (l:=l) (inv:=D.iv (B l)) (m+1) A
 have htop:divQ D B l (D.iv (B l)) (m+1) A m≠0:=fun hz=>by
  have h1:=congrFun i (m+l)
  have h2:D.ad (pmul D (m+1) (divQ D B l (D.iv (B l)) (m+1) A) B (m+l)) (divR D B l (D.iv (B l)) (m+1) A (m+l))=A (m+l):=h1
  rw[pmul_top F hb,hz,zmul F,hR (m+l) (by omega),ad_zero F (zero_lt' F)]at h2
  have:=tA.2 (by omega)
  rw[show lA-1=m+l by omega]at this
  exact this h2.symm
 have tQ:Trd (m+1) (divQ D B l (D.iv (B l)) (m+1) A):=⟨hQb,fun _=>by rw[Nat.add_sub_cancel];exact htop⟩
 have hRl:dgn (divR D B l (D.iv (B l)) (m+1) A) lA≤l:=by
  have:=dgn_from hR (show l≤lA by omega)
  rw[this];exact dgn_le _ _
 exact⟨el_divQ F _ _,tQ,el_divR F _ eA,trd_dgn (hR.mono (by omega)),by omega,i.symm,dgn_self tQ.2⟩
def FindP(D:FD)(n k:Nat)(xs y:Nat→Nat)(w:World)(e:Ending)(w':World):Prop:=Below w.heap.size w w'∧∃v ok lf f,e = .returned (.tuple #[v,.bool ok])∧OwnP w.heap.size v lf f w'∧El D f∧Trd lf f∧lf≤128∧∀a,El D a→Bd k a→2*ofs D k n xs y a≤n-k→ok=true∧f=a
def DvI(D:FD)(n k:Nat)(xs y:Nat→Nat)(w:World)(va vb vs vt:Value)(wr:World):Prop:=∃(ao bo so tt:Option Addr) (ca cb cs ct' lA lB lS lT:Nat) (A B S T:Nat→Nat),va = .slice ao lA ca∧vb = .slice bo lB cb∧vs = .slice so lS cs∧vt = .slice tt lT ct'∧lA≤65∧lT≤65∧n+k+2≤2*lA∧Hid (Arg ao lA ca (fun j=>((A j:Nat):Int)) wr∧Arg bo lB cb (fun j=>((B j:Nat):Int)) wr∧Arg so lS cs (fun j=>((S j:Nat):Int)) wr∧Arg tt lT ct' (fun j=>((T j:Nat):Int)) wr)∧Hid (Euc D n xs y A B S T lA lB lS lT∧Below w.heap.size w wr)
theorem quo_short {D:FD}(hD:D∈fieldsL)(A B:Nat→Nat)(lA lB:Nat):El D (D.quo A lA B lB)∧Bd (lA-(dgn B lB-1)) (D.quo A lA B lB):=by
 unfold FD.quo
 exact⟨el_divQ (fld hD) _ _,divQ_bd _ _⟩
end Go.Proofs.YtedifobeggabnaaGreat
