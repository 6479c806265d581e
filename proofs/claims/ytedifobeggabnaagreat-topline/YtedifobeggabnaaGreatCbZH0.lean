/- Texts of ours, one behind the other: ZH0 ZH1. -/
import Derived.Test.YtedifobeggabnaaGreatCbKD5
import Derived.Test.YtedifobeggabnaaGreatCbZA1
namespace Go.Proofs.YtedifobeggabnaaGreat
open Go.RowKit Go.Sort
def AllI(v:Value)(w:World):Prop:=∀g,v.ownBlock=some g→∃cs,w.heap[g]?=some (.cells cs 3)∧∀x,x∈cs→NoB x
def RowE(g N:Nat)(c:Nat→Nat)(w:World):Prop:=∃f,RowF g N 3 f w∧∀k,k<N→f k = .int .i64 (c k:Nat)
theorem RowE.row {g N:Nat}{c:Nat→Nat}{w:World}(h:RowE g N c w):Row g N c w:=by
 obtain⟨f,h1,h2⟩:=h
 exact⟨N,f,h1,Nat.le_refl _,h2⟩
theorem RowE.plain {g N:Nat}{c:Nat→Nat}{w:World}(h:RowE g N c w):∃cs,w.heap[g]?=some (.cells cs 3)∧∀x,x∈cs→NoB x:=by
 obtain⟨f,⟨cs,h1,h2,h3⟩,h4⟩:=h
 refine⟨cs,h1,fun x hx=>?_⟩
 obtain⟨j,hj,rfl⟩:=Array.mem_iff_getElem.1 hx
 have e:=h3 j (by omega)
 rw[h4 j (by omega),Array.getElem?_eq_getElem hj]at e
 rw[Option.some.inj e]
 exact ok_int _ _
theorem RowE.all {g N cap:Nat}{c:Nat→Nat}{w:World}(h:RowE g N c w):AllI (.slice (some ⟨g,0,none⟩) N cap) w:=fun b hb=>by
 have e:b=g:=by
  simp[Value.ownBlock]at hb
  exact hb.symm
 subst e
 exact h.plain
theorem row_zerosE {base n:Nat}{w:World}(h:OwnI base (.slice (some ⟨base,0,none⟩) n n) (List.replicate n 0) w):RowE base n pnil w:=by
 rcases h.2 with⟨h1,_⟩|⟨g,cap,cur,hv,hg,hh,hle,hcm,hsz,htake⟩
 ·cases h1
 ·simp only[List.length_replicate,Value.slice.injEq,Option.some.injEq,Addr.mk.injEq,and_true,true_and]at hv
  obtain⟨rfl,rfl⟩:=hv
  by_cases h0:n=0
  ·exact⟨fun _=> .int .i64 0,⟨cur,hh,by omega,fun o ho=>by omega⟩,fun k hk=>by omega⟩
  ·obtain⟨gl,cl,fl,hvl,hgl,hgl',hll,hcl,hrl,hfl⟩:=h.row n (by simp) (by omega)
   simp only[Value.slice.injEq,Option.some.injEq,Addr.mk.injEq,and_true,true_and]at hvl
   obtain⟨rfl,rfl⟩:=hvl
   exact⟨fl,hrl,fun k hk=>by rw[hfl k hk,list_getD_replicate];rfl⟩
theorem copy_intE {ops:Array Oper}{rest:List Oper}{o:Oper}{a:Act}{w:World}{Q:Exit→Act→World→Prop}(hgd:o.guard=none)(d s:Operand)
  (ho:o.op = .call { callee:= .builtin .copy,args := #[d,s],argTypes := #[22,22]}) (g N dc n sc:Nat) (ao:Option Addr)
  (hd:a.eval d = .slice (some ⟨g,0,none⟩) N dc) (hs:a.eval s = .slice ao n sc) (c x:Nat→Nat) (hrow:RowE g N c w) (hS:Sl ao n x w) (hn:n≤N)
  (B:Nat) (w0:World) (hb:Below B w0 w) (hBg:B≤g)
  (h:∀w',RowE g N (fun k=>if k<n then x k else c k) w'→Below B w0 w'→wpList Tryz.prog ops Q rest (a.put o.dst (goInt n)) w'):wpList Tryz.prog ops Q (o::rest) a w:=by
 obtain⟨f,hf,he⟩:=hrow
 obtain⟨cs,h1,h2,h3⟩:=hf
 obtain⟨i0,hi,hz0,hz1,hz2⟩:=info_parts Tryz.infoInt
 have hh:w.heap[g]?=some (.cells cs.toList.toArray 3 (0,0)):=by simpa using h1
 refine wpList_copy_splice hgd d s 22 22 ho 3 Tryz.underlying22 (by rw[hi];simp[hz1]) _ _ N dc n sc hd hs g 0 cs.toList 3 hh (celL n x) (by rw[celL_len];exact(Nat.min_eq_left hn).symm) ?_ (by rw[celL_len];simp;omega) (celL_one n x) B w0 hb hBg ?_
 ·intro h0
  rw[celL_len]at h0
  obtain⟨b,off,rfl,_⟩:=hS 0 h0
  refine⟨rfl,_,rfl,fun j v hj=>?_⟩
  have hj':j<n:=by
   have:=(List.getElem?_eq_some_iff.1 hj).1
   rwa [celL_len]at this
  rw[celL_get n x j hj']at hj
  cases hj
  obtain⟨b',off',e,hc⟩:=hS j hj'
  cases e
  rw[add_off];exact hc
 ·intro w' hg' hb'
  rw[celL_len]
  refine h w' ?_ hb'
  have hlen:(splice cs.toList 0 (celL n x)).length=N:=by rw[length_splice _ _ _ (by rw[celL_len];simp;omega)];simpa using h2
  refine⟨fun k=>if k<n then .int .i64 (x k:Nat)else f k,⟨(splice cs.toList 0 (celL n x)).toArray,hg'.out,by simpa using hlen,fun k hk=>?_⟩,fun k hk=>?_⟩
  ·show _=some (if k<n then _ else f k)
   unfold splice
   rw[List.getElem?_toArray,List.take_zero,List.nil_append,celL_len,Nat.zero_add]
   by_cases e:k<n
   ·rw[List.getElem?_append_left (by rw[celL_len];exact e),celL_get n x k e,if_pos e]
   ·rw[List.getElem?_append_right (by rw[celL_len];omega),celL_len,List.getElem?_drop,show n+(k-n)=k from by omega,Array.getElem?_toList,h3 k hk,if_neg e]
  ·show(if k<n then _ else f k) = .int .i64 ((if k<n then x k else c k:Nat):Int)
   by_cases e:k<n
   ·rw[if_pos e,if_pos e]
   ·rw[if_neg e,if_neg e];exact he k hk
def MndE(D:FD)(m k:Nat)(c y:Nat→Nat)(w:World)(e:Ending)(w':World):Prop:=Below w.heap.size w w'∧((∃a,NearH D m k c y a∧∃v,e = .returned (.tuple #[v,.int .i64 (ofs D k m c y a:Nat),.bool true,.int .i64 0])∧OwnP w.heap.size v k a w'∧AllI v w')∨((∀a, ¬NearH D m k c y a)∧e = .returned (.tuple #[.slice none 0 0,.int .i64 0,.bool false,.int .i64 0])))
set_option maxHeartbeats 8000000 in
set_option maxRecDepth 100000 in
theorem mnd_okE {D:FD}(hD:D∈fieldsL){gf:Nat}(eg:∀args w, (callFunc gf args).run Tryz.prog w = .ok (.enter gf args) w){xo wo:Option Addr}{n cx cw k m:Nat}{c c' y':Nat→Nat}{y:Nat→Int}{w:World}(hX:Arg xo n cx (fun j=>((c j:Nat):Int)) w)(hY:Arg wo n cw y w)(hn:n≤64)(hk1:1≤k)(hk:k≤n)
  (hWd:Calls Tryz.prog 101 #[.int .i64 D.q,.slice xo n cx,.int .i64 (k:Nat),.slice wo n cw] w fun e w'=>e = .returned (.int .i64 0)∧Below w.heap.size w w')
  (hH:Heard D n c y m c' y')
  (hfind:∀(F T:Nat) (g:Nat→Value) (wx:World) (ao bo:Option Addr) (ac bc:Nat),FAt F T D g wx→Arg ao m ac (fun j=>((c' j:Nat):Int)) wx→Arg bo m bc (fun j=>((y' j:Nat):Int)) wx→k≤m→Calls Tryz.prog gf (#[.agg #[.pointer (some ⟨F,0,none⟩),.int .i64 (k:Nat),.slice ao m ac,.slice bo m bc]] ++ #[]) wx (FindP D m k c' y' wx)) :
  Calls Tryz.prog 87 #[.int .i64 D.q,.slice xo n cx,.int .i64 (k:Nat),.slice wo n cw,.func (.func gf) #[] #[]] w (MndE D m k c' y' w):=by
 have HH:Hid (Heard D n c y m c' y'):=hH
 have hmn:=hH.le
 have HX:Hid (D∈fieldsL∧Arg xo n cx (fun j=>((c j:Nat):Int)) w∧Arg wo n cw y w):=⟨hD,hX,hY⟩
 have HWd:Hid (Calls Tryz.prog 101 #[.int .i64 D.q,.slice xo n cx,.int .i64 (k:Nat),.slice wo n cw] w fun e w'=>e = .returned (.int .i64 0)∧Below w.heap.size w w'):=hWd
 have HFi:Hid (∀(F T:Nat) (g:Nat→Value) (wx:World) (ao bo:Option Addr) (ac bc:Nat),FAt F T D g wx→Arg ao m ac (fun j=>((c' j:Nat):Int)) wx→Arg bo m bc (fun j=>((y' j:Nat):Int)) wx→k≤m→Calls Tryz.prog gf (#[.agg #[.pointer (some ⟨F,0,none⟩),.int .i64 (k:Nat),.slice ao m ac,.slice bo m bc]] ++ #[]) wx (FindP D m k c' y' wx)):=hfind
 clear hD hX hY hWd hH hfind
 go_enter Tryz.func87,Tryz.ntmps87
 go_wp2_with fail
 refine HWd.out.mono ?_
 rintro e w1 ⟨rfl,hb1⟩
 have H1:Hid (Below w.heap.size w w1):=hb1
 clear hb1
 go_wp2_with fail
 refine(new_any HX.out.1 w1).mono ?_
 rintro e w2 ⟨F,T,g,rfl,hat,_,_,hb2⟩
 have H2:Hid (Below w.heap.size w w2∧FAt F T D g w2):=⟨bel_up' H1.out hb2,hat⟩
 clear hat hb2
 go_wp2_with fail
 refine(hear_any (F:=F) (k:Nat) (HX.out.2.1.below H2.out.1) (HX.out.2.2.below H2.out.1) hn).mono ?_
 rintro e w3 ⟨vx,vy,rfl,hox,hoy,hb3⟩
 rw[HH.out.lx]at hox
 rw[HH.out.ly]at hoy
 obtain⟨ao,ac,rfl,hax⟩:=hox.argL
 obtain⟨bo,bc,rfl,hay⟩:=hoy.argL
 obtain⟨w4,hw4⟩:∃w4,w4=w3.alloc (.cells #[.pointer (some ⟨F,0,none⟩),.int .i64 (k:Nat),.slice ao m ac,.slice bo m bc] 151):=⟨_,rfl⟩
 have hb4:Below w3.heap.size w3 w4:=by rw[hw4];exact(Below.refl _ _).alloc (Nat.le_refl _) _
 have hs4:w4.heap.size=w3.heap.size+1:=by rw[hw4];simp
 have r4:RowF w3.heap.size 4 151 (hbx' #[.pointer (some ⟨F,0,none⟩),.int .i64 (k:Nat),.slice ao m ac,.slice bo m bc]) w4:=by rw[hw4];exact rowF_new _ _ _ _ rfl
 have H4:Hid (Below w.heap.size w w4∧FAt F T D g w4∧Arg ao m ac (fun j=>((c' j:Nat):Int)) w4∧Arg bo m bc (fun j=>((y' j:Nat):Int)) w4):=by
  have hb34:=bel_up' hb3 hb4
  exact⟨bel_up' H2.out.1 hb34,H2.out.2.below hb34 H2.out.2.ltF H2.out.2.ltT,(hax.arg (by omega)).below hb4,(hay.arg (by omega)).below hb4⟩
 have HBx:Hid (∀wx,Below w4.heap.size w4 wx→wx.cell? ⟨w3.heap.size,0,none⟩=some (.pointer (some ⟨F,0,none⟩))∧wx.cell? ⟨w3.heap.size,1,none⟩=some (.int .i64 (k:Nat))∧wx.cell? ⟨w3.heap.size,2,none⟩=some (.slice ao m ac)∧wx.cell? ⟨w3.heap.size,3,none⟩=some (.slice bo m bc)):=fun wx hb=>by
  have h:=r4.below hb (by omega)
  exact⟨h.cell 0 (by omega),h.cell 1 (by omega),h.cell 2 (by omega),h.cell 3 (by omega)⟩
 clear hox hoy hb3 hax hay hb4 r4
 have HSp:Hid (∀wx,Calls Tryz.prog 103 #[.agg #[.pointer (some ⟨F,0,none⟩),.int .i64 (k:Nat),.slice ao m ac,.slice bo m bc]] wx fun e w'=>e = .returned (.int .i64 ((m:Int)-(k:Int)))∧Below wx.heap.size wx w'):=fun wx=>spare_any F (k:Nat) ao bo m ac m bc (by omega) (by omega) (by omega) wx
 go_wp2_with fail
 rw[←hw4]
 clear hw4
 refine(HSp.out w4).mono ?_
 rintro e w5 ⟨rfl,hb5⟩
 have H5:Hid (Below w.heap.size w w5∧Below w4.heap.size w4 w5):=⟨bel_up' H4.out.1 hb5,hb5⟩
 clear hb5
 by_cases hkm:k≤m
 ·have hsp:¬(m:Int)-(k:Int)<0:=by omega
  obtain⟨b0,b1,b2,b3⟩:=HBx.out w5 H5.out.2
  have hl5:w3.heap.size<w5.heap.size:=by have:=H5.out.2.size;omega
  have hcall:=HFi.out F T g w5 ao bo ac bc (H4.out.2.1.below H5.out.2 H4.out.2.1.ltF H4.out.2.1.ltT) (H4.out.2.2.1.below H5.out.2) (H4.out.2.2.2.below H5.out.2) hkm
  have HCl:Hid (Calls Tryz.prog gf (#[.agg #[.pointer (some ⟨F,0,none⟩),.int .i64 (k:Nat),.slice ao m ac,.slice bo m bc]] ++ #[]) w5 (FindP D m k c' y' w5)):=hcall
  clear hcall
  go_wp2_with fail
  go_at_fn gf
  refine HCl.out.mono ?_
  rintro e w6 ⟨hb6,v,ok,lf,f,rfl,hov,hef,htf,hlf,hall⟩
  obtain⟨fo,fc,rfl,hfa⟩:=hov.arg (by omega)
  have H6:Hid (Below w.heap.size w w6∧Below w4.heap.size w4 w6∧Arg fo lf fc (fun j=>((f j:Nat):Int)) w6∧El D f∧Trd lf f∧∀a,El D a→Bd k a→2*ofs D k m c' y' a≤m-k→ok=true∧f=a):=⟨bel_up' H5.out.1 hb6,bel_up' H5.out.2 hb6,hfa,hef,htf,hall⟩
  clear hb6 hov hef htf hall hfa b0 b1 b2 b3
  cases ok
  ·have HNo:Hid (∀a, ¬NearH D m k c' y' a):=fun a ha=>by
    have:=(H6.out.2.2.2.2.2 a ha.1 ha.2.1 ha.2.2.2).1
    cases this
   go_wp2
   refine bodyPost_ret (results_four rfl _ _ _) rfl ?_
   exact⟨H6.out.1,Or.inr ⟨HNo.out,rfl⟩⟩
  ·by_cases hlk:k<lf
   ·have hlkb:(k:Int)<(lf:Int):=by omega
    have hlkc:(lf:Int) > (k:Int):=hlkb
    have HNo:Hid (∀a, ¬NearH D m k c' y' a):=fun a ha=>by
     have e:=(H6.out.2.2.2.2.2 a ha.1 ha.2.1 ha.2.2.2).2
     have h1:=H6.out.2.2.2.2.1
     rw[e]at h1
     have:=trd_le h1 ha.2.1
     omega
    go_wp2
    refine bodyPost_ret (results_four rfl _ _ _) rfl ?_
    exact⟨H6.out.1,Or.inr ⟨HNo.out,rfl⟩⟩
   ·have hlkb:¬(k:Int)<(lf:Int):=by omega
    have hlkc:¬(lf:Int) > (k:Int):=hlkb
    have hlk2:lf≤k:=by omega
    obtain⟨E,hE⟩:∃E,E=ofs D k m c' y' f:=⟨_,rfl⟩
    have hEb:E≤m:=by
     rw[hE];unfold ofs
     have:=ct_not (fun i=>decide (D.ev f (c' i) k=y' i)) m
     omega
    have HE:Hid (E=ofs D k m c' y' f):=hE
    clear hE
    have HSk:Hid (∀wx,Below w4.heap.size w4 wx→wx.cell? ⟨w3.heap.size,2,none⟩=some (.slice ao m ac)∧wx.cell? ⟨w3.heap.size,3,none⟩=some (.slice bo m bc)):=fun wx hb=>⟨(HBx.out wx hb).2.2.1,(HBx.out wx hb).2.2.2⟩
    have HVa:Hid (Calls Tryz.prog 48 #[.pointer (some ⟨F,0,none⟩),.slice fo lf fc,.slice ao m ac] w6.drew fun e w'=>e = .returned (.slice (some ⟨w6.heap.size,0,none⟩) m m)∧Row w6.heap.size m (fun i=>D.ev f (c' i) k) w'∧Below w6.heap.size w6 w'):=by
     have hbd:Below w6.heap.size w6 w6.drew:=(Below.refl _ _).drew
     have hb46:=bel_up' H6.out.2.1 hbd
     have h:=rvalues_any HX.out.1 (ca:=fc) (cx:=ac) (H4.out.2.1.below hb46 H4.out.2.1.ltF H4.out.2.1.ltT) (show lf≤128 by omega) (show m≤64 by omega) H6.out.2.2.2.1 HH.out.cq (H6.out.2.2.1.below hbd).sl (H4.out.2.2.1.below hb46).sl (H6.out.2.2.1.below hbd).lt (H4.out.2.2.1.below hb46).lt
     refine h.mono ?_
     rintro e w' ⟨rfl,hr,hb'⟩
     refine⟨rfl,hr.congr (fun i _=>?_),bel_up' hbd hb'⟩
     exact(ev_from (fld HX.out.1) (c' i) H6.out.2.2.2.2.1.1 hlk2).symm
    obtain⟨b0,b1,b2,b3⟩:=HBx.out w6 H6.out.2.1
    have hl6:w3.heap.size<w6.heap.size:=by have:=H6.out.2.1.size;omega
    go_wp2
    refine wp_region_noPanic ?_
    have hS0:=HSk.out w6.drew (bel_up' H6.out.2.1 (Below.refl _ _).drew)
    refine wp_region_L (S:=fun wz=>wz.cell? ⟨w3.heap.size,2,none⟩=some (.slice ao m ac)∧wz.cell? ⟨w3.heap.size,3,none⟩=some (.slice bo m bc)) [] (by kernel_rfl) ?_
    clear b0 b1 b2 b3
    refine wpAnyL_take (i:=0) (v:=?_) (by rw[List.getElem?_toArray];rfl) (by decide +kernel) (by decide +kernel) (by decide +kernel) (by decide +kernel) (by decide +kernel) (fun _ _ _ h=>h) hS0 (Or.inl ⟨by rfl,?_⟩) ?_
    rotate_left
    ·intro wz hSz;obtain⟨z0,z1⟩:=hSz;go_simp;first|done|with_reducible rfl
    try simp only[Act.put,List.setIfInBounds_toArray,List.set_cons_zero,List.set_cons_succ]
    refine wpAnyL_take (i:=1) (v:=?_) (by rw[List.getElem?_toArray];rfl) (by decide +kernel) (by decide +kernel) (by decide +kernel) (by decide +kernel) (by decide +kernel) (fun _ _ _ h=>h) hS0 (Or.inl ⟨by rfl,?_⟩) ?_
    rotate_left
    ·intro wz hSz;obtain⟨z0,z1⟩:=hSz;go_simp;first|done|with_reducible rfl
    try simp only[Act.put,List.setIfInBounds_toArray,List.set_cons_zero,List.set_cons_succ]
    refine wpAnyL_take (i:=2) (v:=?_) (by rw[List.getElem?_toArray];rfl) (by decide +kernel) (by decide +kernel) (by decide +kernel) (by decide +kernel) (by decide +kernel) (fun _ _ _ h=>h) hS0 (Or.inl ⟨by rfl,?_⟩) ?_
    rotate_left
    ·intro wz hSz;obtain⟨z0,z1⟩:=hSz;go_simp;first|done|with_reducible rfl
    try simp only[Act.put,List.setIfInBounds_toArray,List.set_cons_zero,List.set_cons_succ]
    refine wpAnyL_take (i:=3) (v:=?_) (by rw[List.getElem?_toArray];rfl) (by decide +kernel) (by decide +kernel) (by decide +kernel) (by decide +kernel) (by decide +kernel) (fun _ _ _ h=>h) hS0 (Or.inl ⟨by rfl,?_⟩) ?_
    rotate_left
    ·intro wz hSz;obtain⟨z0,z1⟩:=hSz;go_simp;first|done|with_reducible rfl
    try simp only[Act.put,List.setIfInBounds_toArray,List.set_cons_zero,List.set_cons_succ]
    refine wpAnyL_take (i:=5) (v:=?_) (by rw[List.getElem?_toArray];rfl) (by decide +kernel) (by decide +kernel) (by decide +kernel) (by decide +kernel) (by decide +kernel) (fun _ _ _ h=>h) hS0 (Or.inl ⟨by rfl,?_⟩) ?_
    rotate_left
    ·intro wz hSz;obtain⟨z0,z1⟩:=hSz;go_simp;first|done|with_reducible rfl
    try simp only[Act.put,List.setIfInBounds_toArray,List.set_cons_zero,List.set_cons_succ]
    refine wpAnyL_take (i:=6) (v:=?_) (by rw[List.getElem?_toArray];rfl) (by decide +kernel) (by decide +kernel) (by decide +kernel) (by decide +kernel) (by decide +kernel) (fun _ _ _ h=>h) hS0 (Or.inl ⟨by rfl,?_⟩) ?_
    rotate_left
    ·intro wz hSz;obtain⟨z0,z1⟩:=hSz;go_simp;first|done|with_reducible rfl
    try simp only[Act.put,List.setIfInBounds_toArray,List.set_cons_zero,List.set_cons_succ]
    refine wpAnyL_one (i:=4) (by kernel_rfl) (by rw[List.getElem?_toArray];rfl) (fun K hK=>?_)
    have HK:Hid _:=hK
    clear hK
    go_simp
    refine HVa.out.mono ?_
    rintro e w7 ⟨rfl,hr7,hb7⟩
    have H7:Hid (Below w.heap.size w w7∧Below w4.heap.size w4 w7∧Arg fo lf fc (fun j=>((f j:Nat):Int)) w7):=⟨bel_up' H6.out.1 hb7,bel_up' H6.out.2.1 hb7,H6.out.2.2.1.below hb7⟩
    have HAp:Hid (Calls Tryz.prog 104 #[.slice (some ⟨w6.heap.size,0,none⟩) m m,.slice bo m bc] w7 fun e w'=>e = .returned (.int .i64 (E:Nat))∧w'=w7):=by
     show Calls _ _ _ _ _
     rw[HE.out]
     exact apart_any (hr7.sl (Nat.le_refl _)) (H4.out.2.2.2.below H7.out.2.1).sl (by omega)
    clear hr7 hb7
    refine HK.out _ _ (fun _=>HSk.out _ H7.out.2.1) ?_
    clear HK K
    try simp only[Act.put,List.setIfInBounds_toArray,List.set_cons_zero,List.set_cons_succ]
    refine wpAnyL_one (i:=7) (by kernel_rfl) (by rw[List.getElem?_toArray];rfl) (fun K hK=>?_)
    have HK:Hid _:=hK
    clear hK
    go_simp
    refine HAp.out.mono ?_
    rintro e w' ⟨rfl,hw⟩
    have hw:=hw.symm
    subst hw
    refine HK.out _ _ (fun _=>HSk.out _ H7.out.2.1) ?_
    clear HK K
    try simp only[Act.put,List.setIfInBounds_toArray,List.set_cons_zero,List.set_cons_succ]
    refine wpAnyL_one (i:=8) (by kernel_rfl) (by rw[List.getElem?_toArray];rfl) (fun K hK=>?_)
    have HK:Hid _:=hK
    clear hK
    go_simp
    refine HK.out _ _ (fun _=>HSk.out _ H7.out.2.1) ?_
    clear HK K
    try simp only[Act.put,List.setIfInBounds_toArray,List.set_cons_zero,List.set_cons_succ]
    refine wpAnyL_done (by kernel_rfl) (NoPanic.normal ?_)
    clear hS0
    obtain⟨b0,b1,b2,b3⟩:=HBx.out w7 H7.out.2.1
    have hl7:w3.heap.size<w7.heap.size:=by have:=H7.out.2.1.size;omega
    have hw2:IntKind.i64.wrap (2*(E:Int))=2*(E:Int):=wrap_ka (by omega) (by omega)
    go_wp2_with fail
    refine(HSp.out w7).mono ?_
    rintro e w8 ⟨rfl,hb8⟩
    have H8:Hid (Below w.heap.size w w8∧Arg fo lf fc (fun j=>((f j:Nat):Int)) w8):=⟨bel_up' H7.out.1 hb8,H7.out.2.2.below hb8⟩
    clear hb8 b0 b1 b2 b3
    by_cases hgt:(m:Int)-(k:Int)<2*(E:Int)
    ·have hgt2:2*(E:Int) > (m:Int)-(k:Int):=hgt
     have HNo:Hid (∀a, ¬NearH D m k c' y' a):=fun a ha=>by
      have e:=(H6.out.2.2.2.2.2 a ha.1 ha.2.1 ha.2.2.2).2
      have h1:=HE.out
      rw[e]at h1
      have:=ha.2.2.2
      omega
     go_wp2
     refine bodyPost_ret (results_four rfl _ _ _) rfl ?_
     exact⟨H8.out.1,Or.inr ⟨HNo.out,rfl⟩⟩
    ·have hgt2:¬2*(E:Int) > (m:Int)-(k:Int):=hgt
     have HNe:Hid (NearH D m k c' y' f):=⟨H6.out.2.2.2.1,H6.out.2.2.2.2.1.1.mono hlk2,hkm,by rw[←HE.out];omega⟩
     go_wp2_with (first
      |(at_make;refine make_int rfl _ _ rfl _ k rfl rfl (by omega) (by omega) ?_;intro w9 hown9 hgrow9)
      |(show wpList _ _ _ (Oper.mk (some 73) _ _ _ _ _::_) _ _;(refine copy_intE rfl _ _ rfl w8.heap.size k k lf fc fo rfl rfl pnil f (row_zerosE hown9) ((H8.out.2.below (below_grown hgrow9 (Nat.le_refl _) (fun k hk=>by simp at hk))).sl) hlk2 w8.heap.size w8 (below_grown hgrow9 (Nat.le_refl _) (fun k hk=>by simp at hk)) (Nat.le_refl _) ?_);intro w10 hrow10 hb10))
     have H10:Hid (Below w.heap.size w w10∧Row w8.heap.size k f w10∧AllI (.slice (some ⟨w8.heap.size,0,none⟩) k k) w10):=⟨bel_up' H8.out.1 hb10,hrow10.row.congr (fun j _=>by show(if j<lf then f j else pnil j)=f j;split;rfl;exact(H6.out.2.2.2.2.1.1 j (by omega)).symm),hrow10.all⟩
     clear hown9 hgrow9 hrow10 hb10
     refine bodyPost_ret (results_four rfl _ _ _) rfl ?_
     exact⟨H10.out.1,Or.inl ⟨f,HNe.out,_,by rw[←HE.out];rfl,OwnP.of_row H10.out.2.1 (Nat.le_refl _) (Nat.le_refl _) (by omega) H8.out.1.size,H10.out.2.2⟩⟩
 ·have hsp:(m:Int)-(k:Int)<0:=by omega
  go_wp2
  refine bodyPost_ret (results_four rfl _ _ _) rfl ?_
  exact⟨H5.out.1,Or.inr ⟨fun a ha=>hkm ha.2.2.1,rfl⟩⟩
set_option maxHeartbeats 2000000 in
set_option maxRecDepth 100000 in
theorem euclid_okE {D:FD}(hD:D∈fieldsL){xo wo:Option Addr}{n cx cw k m:Nat}{c c' y':Nat→Nat}{y:Nat→Int}{w:World}(hX:Arg xo n cx (fun j=>((c j:Nat):Int)) w)(hY:Arg wo n cw y w)(hn:n≤64)(hk1:1≤k)(hk:k≤n)
  (hWd:Calls Tryz.prog 101 #[.int .i64 D.q,.slice xo n cx,.int .i64 (k:Nat),.slice wo n cw] w fun e w'=>e = .returned (.int .i64 0)∧Below w.heap.size w w')
  (hH:Heard D n c y m c' y') :
  Calls Tryz.prog 56 #[.int .i64 D.q,.slice xo n cx,.int .i64 (k:Nat),.slice wo n cw] w (MndE D m k c' y' w):=by
 have HM:Hid (Calls Tryz.prog 87 #[.int .i64 D.q,.slice xo n cx,.int .i64 (k:Nat),.slice wo n cw,.func (.func 88) #[] #[]] w (MndE D m k c' y' w)):=by
  refine mnd_okE hD enters_bd hX hY hn hk1 hk hWd hH (fun F T g wx ao bo ac bc hat ha hb hkm=>?_)
  have e:(#[Value.agg #[.pointer (some ⟨F,0,none⟩),.int .i64 (k:Nat),.slice ao m ac,.slice bo m bc]] ++ #[]:Array Value) = #[.agg #[.pointer (some ⟨F,0,none⟩),.int .i64 (k:Nat),.slice ao m ac,.slice bo m bc]]:=rfl
  rw[e]
  exact byDivisors_any hD hat ha hb (by have:=hH.le;omega) hk1 hkm hH.cq hH.ne hH.yq
 clear hX hY hWd hH
 go_enter Tryz.func56,Tryz.ntmps56
 go_wp2_with fail
 refine HM.out.mono ?_
 rintro e w1 ⟨hb,⟨a,ha,v,rfl,hv⟩|⟨hno,rfl⟩⟩
 ·have H1:Hid (Below w.heap.size w w1∧NearH D m k c' y' a∧OwnP w.heap.size v k a w1∧AllI v w1):=⟨hb,ha,hv⟩
  clear hb ha hv
  go_wp2
  refine bodyPost_ret (results_four rfl _ _ _) rfl ?_
  exact⟨H1.out.1,Or.inl ⟨a,H1.out.2.1,v,rfl,H1.out.2.2⟩⟩
 ·have H1:Hid (Below w.heap.size w w1∧∀a, ¬NearH D m k c' y' a):=⟨hb,hno⟩
  clear hb hno
  go_wp2
  refine bodyPost_ret (results_four rfl _ _ _) rfl ?_
  exact⟨H1.out.1,Or.inr ⟨H1.out.2,rfl⟩⟩
def LmP(D:FD)(m k:Nat)(c y:Nat→Nat)(w:World)(e:Ending)(w':World):Prop:=Below w.heap.size w w'∧((∃a,NearH D m k c y a∧∃v,e = .returned (.agg #[v,.int .i64 (ofs D k m c y a:Nat),.bool false])∧OwnP w.heap.size v k a w'∧AllI v w')∨((∀a, ¬NearH D m k c y a)∧e = .returned (.agg #[.slice none 0 0,.int .i64 0,.bool true])))
set_option maxHeartbeats 4000000 in
set_option maxRecDepth 100000 in
theorem lmend_ok {D:FD}(hD:D∈fieldsL){xo wo:Option Addr}{n cx cw k m:Nat}{c c' y':Nat→Nat}{y:Nat→Int}{w:World}(hX:Arg xo n cx (fun j=>((c j:Nat):Int)) w)(hY:Arg wo n cw y w)(hn:n≤64)(hk1:1≤k)(hk:k≤n)
  (hWd:∀wx,Below w.heap.size w wx→Calls Tryz.prog 101 #[.int .i64 D.q,.slice xo n cx,.int .i64 (k:Nat),.slice wo n cw] wx fun e w'=>e = .returned (.int .i64 0)∧Below wx.heap.size wx w')
  (hH:Heard D n c y m c' y') :
  Calls Tryz.prog 29 #[.int .i64 D.q,.slice xo n cx,.int .i64 (k:Nat),.slice wo n cw] w (LmP D m k c' y' w):=by
 have HE:Hid (∀wx,Below w.heap.size w wx→Calls Tryz.prog 56 #[.int .i64 D.q,.slice xo n cx,.int .i64 (k:Nat),.slice wo n cw] wx (MndE D m k c' y' wx)):=fun wx hb=>euclid_okE hD (hX.below hb) (hY.below hb) hn hk1 hk (hWd wx hb) hH
 clear hX hY hWd hH
 go_enter Tryz.func29,Tryz.ntmps29
 go_wp2_with fail
 obtain⟨w1,hw1⟩:∃w1,w1=w.alloc (.cells #[.slice none 0 0,.int .i64 0,.bool false] 39):=⟨_,rfl⟩
 have hb1:Below w.heap.size w w1:=by rw[hw1];exact(Below.refl _ _).alloc (Nat.le_refl _) _
 have hs1:w1.heap.size=w.heap.size+1:=by rw[hw1];simp
 have r1:RowF w.heap.size 3 39 (hbx' #[.slice none 0 0,.int .i64 0,.bool false]) w1:=by rw[hw1];exact rowF_new _ _ _ _ rfl
 rw[←hw1]
 clear hw1
 refine(HE.out w1 hb1).mono ?_
 rintro e w2 ⟨hb2,hr⟩
 have hb02:=bel_up' hb1 hb2
 have r2:=r1.below hb2 (by omega)
 have c0:w2.cell? ⟨w.heap.size,0,none⟩=some (.slice none 0 0):=r2.cell 0 (by omega)
 have c1:w2.cell? ⟨w.heap.size,1,none⟩=some (.int .i64 0):=r2.cell 1 (by omega)
 have c2:w2.cell? ⟨w.heap.size,2,none⟩=some (.bool false):=r2.cell 2 (by omega)
 have f0:=r2.free 0
 have f1:=r2.free 1
 have f2:=r2.free 2
 have hl2:w.heap.size<w2.heap.size:=r2.lt
 have HB:Hid (∀(v:Value) (x:Int) (b:Bool) (w3:World),w3=((w2.setCell ⟨w.heap.size,0,none⟩ v).setCell ⟨w.heap.size,1,none⟩ (.int .i64 x)).setCell ⟨w.heap.size,2,none⟩ (.bool b)→Below w.heap.size w w3∧w3.cell? ⟨w.heap.size,0,none⟩=some v∧w3.cell? ⟨w.heap.size,1,none⟩=some (.int .i64 x)∧w3.cell? ⟨w.heap.size,2,none⟩=some (.bool b)):=fun v x b w3 h=>by
  subst h
  have r3:=((r2.store 0 v).store 1 (.int .i64 x)).store 2 (.bool b)
  exact⟨((hb02.setCell (Nat.le_refl _) _).setCell (Nat.le_refl _) _).setCell (Nat.le_refl _) _,r3.cell 0 (by omega),r3.cell 1 (by omega),r3.cell 2 (by omega)⟩
 rcases hr with⟨a,ha,v,rfl,hv,hal⟩|⟨hno,rfl⟩
 ·obtain⟨so, sn, rfl, hvo⟩:∃so sc, v = .slice so k sc∧Hid (OwnP (w.heap.size+1) (.slice so k sc) k a w2∧AllI (.slice so k sc) w2):=by
   have hv0:OwnP (w.heap.size+1) v k a w2:=by rw[←hs1];exact hv
   obtain⟨ao,cap,rfl,_⟩:=hv
   exact⟨ao,cap,rfl,hv0,hal⟩
  have HN:Hid (NearH D m k c' y' a):=ha
  clear hv ha hal r1 r2 hb1 hb2 hb02
  go_wp2
  obtain⟨w3,hw3⟩:∃w3,w3=((w2.setCell ⟨w.heap.size,0,none⟩ (.slice so k sn)).setCell ⟨w.heap.size,1,none⟩ (.int .i64 (ofs D k m c' y' a:Nat))).setCell ⟨w.heap.size,2,none⟩ (.bool false):=⟨_,rfl⟩
  obtain⟨hb3,d0,d1,d2⟩:=HB.out _ _ _ _ hw3
  have hne:∀g,(Value.slice so k sn).ownBlock=some g→g≠w.heap.size:=fun g hg=>by have:=OwnP.block hvo.out.1 g hg;omega
  have hv3:OwnP w.heap.size (.slice so k sn) k a w3:=by
   rw[hw3]
   exact(((hvo.out.1.setOther ⟨w.heap.size,0,none⟩ hne _).setOther ⟨w.heap.size,1,none⟩ hne _).setOther ⟨w.heap.size,2,none⟩ hne _).mono (by omega)
  have ha3:AllI (.slice so k sn) w3:=fun g hg=>by
   obtain⟨cs,h1,h2⟩:=hvo.out.2 g hg
   exact⟨cs,by rw[hw3,heap_setCell,if_neg (hne g hg),heap_setCell,if_neg (hne g hg),heap_setCell,if_neg (hne g hg)];exact h1,h2⟩
  rw[←hw3]
  refine bodyPost_ret (v:= .agg #[.slice so k sn,.int .i64 (ofs D k m c' y' a:Nat),.bool false]) (by simp only[Tryz.f29,results];go_simp) rfl ?_
  exact⟨hb3,Or.inl ⟨a,HN.out,_,rfl,hv3,ha3⟩⟩
 ·have HN:Hid (∀a, ¬NearH D m k c' y' a):=hno
  clear hno r1 r2 hb1 hb2 hb02
  go_wp2
  obtain⟨w3,hw3⟩:∃w3,w3=((w2.setCell ⟨w.heap.size,0,none⟩ (.slice none 0 0)).setCell ⟨w.heap.size,1,none⟩ (.int .i64 0)).setCell ⟨w.heap.size,2,none⟩ (.bool true):=⟨_,rfl⟩
  obtain⟨hb3,d0,d1,d2⟩:=HB.out _ _ _ _ hw3
  rw[←hw3]
  refine bodyPost_ret (v:= .agg #[.slice none 0 0,.int .i64 0,.bool true]) (by simp only[Tryz.f29,results];go_simp) rfl ?_
  exact⟨hb3,Or.inr ⟨HN.out,rfl⟩⟩
end Go.Proofs.YtedifobeggabnaaGreat
