/- Texts of ours, one behind the other: ZE12 ZE13 ZE14 ZE15 ZE16 ZE17 ZE18 ZE19 ZE20 ZE21. -/
import Derived.Test.YtedifobeggabnaaGreatCbZE1
namespace Go.Proofs.YtedifobeggabnaaGreat
section
open Go.Conc Go.RowKit Go.ConcR.Gen
def ctT(D:Nat→Bool)(T x y:Nat)(a1 t2:Value)(e:Int)(t5 t6 t7 t8 t9 t10 t11 t12 t13 t14 t15 t16 t17:Value):Array Value:=
 #[.pointer (some ⟨T,0,none⟩),a1,t2,.pointer (some ⟨x,0,none⟩),.pointer (some ⟨y,0,none⟩),if D 0 then .pointer (some ⟨T,0,none⟩)else t5,if D 1 then .pointer (some ⟨T,0,none⟩)else t6,if D 2 then .pointer (some ⟨T,0,none⟩)else t7,if D 3 then .pointer (some ⟨x,1,none⟩)else t8,if D 4 then .int .i64 e else t9,t10,t11,t12,t13,t14,t15,t16,t17]
theorem ct_on:∀(i:Nat) (o:Oper) (e:Edge),(ctR1x Tryz.f28)[i]?=some o→e∈o.after→e.on<(ctR1x Tryz.f28).size:=on_of (n:=6) (by kernel_rfl) (by kernel_rfl)
theorem ct_dep {D:Nat→Bool}{l:List Nat}{i:Nat}(h:Val (ctR1x Tryz.f28) D (i::l)):i<6∧D i=false∧Val (ctR1x Tryz.f28) (fun x=>D x || decide (x=i)) l∧(i=1→D 0=true)∧(i=2→D 1=true)∧(i=4→D 3=true)∧(i=5→D 2=true∧D 4=true):=by
 obtain⟨h1,⟨o,ho,hd⟩,h3⟩:=h
 have hi:i<6:=by
  have hsz:(ctR1x Tryz.f28).size=6:=by kernel_rfl
  have:=(Array.getElem?_eq_some_iff.1 ho).1
  omega
 simp only[ctR1x,ctC1x,ctBodyx,Tryz.f28]at ho
 refine⟨hi,h1,h3,?_,?_,?_,?_⟩
 ·rintro rfl
  cases Option.some.inj ho
  exact hd ⟨0,.data⟩ (by simp) rfl
 ·rintro rfl
  cases Option.some.inj ho
  exact hd ⟨1,.data⟩ (by simp) rfl
 ·rintro rfl
  cases Option.some.inj ho
  exact hd ⟨3,.data⟩ (by simp) rfl
 ·rintro rfl
  cases Option.some.inj ho
  exact⟨hd ⟨2,.data⟩ (by simp) rfl,hd ⟨4,.data⟩ (by simp) rfl⟩
theorem ct_nil {D:Nat→Bool}(h:Val (ctR1x Tryz.f28) D []):D 5=true:=by
 have key:∀(i:Nat) (o:Oper),(ctR1x Tryz.f28)[i]?=some o→(∀e,e∈o.after→Region.binds .any e=true→D e.on=true)→i<6→D i=true:=by
  intro i o ho hd hi
  cases hD:D i with
  | true=>rfl
  | false=>
   obtain⟨o',ho',e,he,hb,hf⟩:=h i (by rw[show(ctR1x Tryz.f28).size=6 by kernel_rfl];exact hi) hD
   rw[ho]at ho'
   cases ho'
   rw[hd e he hb]at hf
   cases hf
 have k0:D 0=true:=by
  refine key 0 _ rfl (fun e he _=>?_) (by omega)
  have he:e∈(#[]:Array Edge):=he
  simp at he
 have k1:D 1=true:=by
  refine key 1 _ rfl (fun e he _=>?_) (by omega)
  have he:e∈(#[⟨0,.data⟩]:Array Edge):=he
  simp at he
  subst he
  exact k0
 have k3:D 3=true:=by
  refine key 3 _ rfl (fun e he _=>?_) (by omega)
  have he:e∈(#[]:Array Edge):=he
  simp at he
 have k2:D 2=true:=by
  refine key 2 _ rfl (fun e he _=>?_) (by omega)
  have he:e∈(#[⟨1,.data⟩]:Array Edge):=he
  simp at he
  subst he
  exact k1
 have k4:D 4=true:=by
  refine key 4 _ rfl (fun e he _=>?_) (by omega)
  have he:e∈(#[⟨3,.data⟩]:Array Edge):=he
  simp at he
  subst he
  exact k3
 have k5:D 5=true:=by
  refine key 5 _ rfl (fun e he _=>?_) (by omega)
  have he:e∈(#[⟨2,.data⟩,⟨4,.data⟩]:Array Edge):=he
  simp at he
  rcases he with rfl|rfl
  ·exact k2
  ·exact k4
 exact k5
section
variable {T x y:Nat}{a1 t2 t5 t6 t7 t8 t9 t10 t11 t12 t13 t14 t15 t16 t17:Value}{e:Int}{D:Nat→Bool}{rd:Nat→Prop}{Lv:World→Prop}{O:Nat→Prop}{w:World}{Stop:(Nat→Prop)→Goroutine→World→Prop}{k:List Item}{cs:List Frame}{l:List Nat}{n:Nat}
theorem ct_put0:(⟨ctT D T x y a1 t2 e t5 t6 t7 t8 t9 t10 t11 t12 t13 t14 t15 t16 t17,[]⟩:Act).put (some 5) (.pointer (some ⟨T,0,none⟩))=⟨ctT (fun x=>D x || decide (x=0)) T x y a1 t2 e t5 t6 t7 t8 t9 t10 t11 t12 t13 t14 t15 t16 t17,[]⟩:=by
 simp[Act.put,ctT]
theorem ct_put1:(⟨ctT D T x y a1 t2 e t5 t6 t7 t8 t9 t10 t11 t12 t13 t14 t15 t16 t17,[]⟩:Act).put (some 6) (.pointer (some ⟨T,0,none⟩))=⟨ctT (fun x=>D x || decide (x=1)) T x y a1 t2 e t5 t6 t7 t8 t9 t10 t11 t12 t13 t14 t15 t16 t17,[]⟩:=by
 simp[Act.put,ctT]
theorem ct_put2:(⟨ctT D T x y a1 t2 e t5 t6 t7 t8 t9 t10 t11 t12 t13 t14 t15 t16 t17,[]⟩:Act).put (some 7) (.pointer (some ⟨T,0,none⟩))=⟨ctT (fun x=>D x || decide (x=2)) T x y a1 t2 e t5 t6 t7 t8 t9 t10 t11 t12 t13 t14 t15 t16 t17,[]⟩:=by
 simp[Act.put,ctT]
theorem ct_put3:(⟨ctT D T x y a1 t2 e t5 t6 t7 t8 t9 t10 t11 t12 t13 t14 t15 t16 t17,[]⟩:Act).put (some 8) (.pointer (some ⟨x,1,none⟩))=⟨ctT (fun x=>D x || decide (x=3)) T x y a1 t2 e t5 t6 t7 t8 t9 t10 t11 t12 t13 t14 t15 t16 t17,[]⟩:=by
 simp[Act.put,ctT]
theorem ct_put4:(⟨ctT D T x y a1 t2 e t5 t6 t7 t8 t9 t10 t11 t12 t13 t14 t15 t16 t17,[]⟩:Act).put (some 9) (.int .i64 e)=⟨ctT (fun x=>D x || decide (x=4)) T x y a1 t2 e t5 t6 t7 t8 t9 t10 t11 t12 t13 t14 t15 t16 t17,[]⟩:=by
 simp[Act.put,ctT]
set_option maxRecDepth 100000 in
theorem ct_s0(hn:HG Tryz.prog false rd Lv Stop n O (G ((base 28).at ⟨ctT (fun x=>D x || decide (x=0)) T x y a1 t2 e t5 t6 t7 t8 t9 t10 t11 t12 t13 t14 t15 t16 t17,[]⟩ (.inRegion (ctR1x Tryz.f28) l::k)) cs) w):HG Tryz.prog false rd Lv Stop (n+1) O (G ((base 28).at ⟨ctT D T x y a1 t2 e t5 t6 t7 t8 t9 t10 t11 t12 t13 t14 t15 t16 t17,[]⟩ (.inRegion (ctR1x Tryz.f28) (0::l)::k)) cs) w:=by
 rw[←ct_put0]at hn
 refine hg_value (.pointer (some ⟨T,0,none⟩)) rfl rfl (by decide) (fun w1 h1=>?_) (fun w1 h1 E0 he=>?_) hn
 ·simp only[ctR1x,ctC1x,ctBodyx,Tryz.f28]
  simp only[ctT]
  go_simp
 ·have h0:∀E:Array Event,E = #[]→E0∈E→EvT rd O w1.heap.size E0:=fun E h h'=>by rw[h]at h';simp at h'
  refine h0 _ ?_ he
  clear he h0
  simp only[ctR1x,ctC1x,ctBodyx,Tryz.f28]
  simp only[ctT]
  simp[go_sem, *]
set_option maxRecDepth 100000 in
theorem ct_s1(hD:D 0=true)(hn:HG Tryz.prog false rd Lv Stop n O (G ((base 28).at ⟨ctT (fun x=>D x || decide (x=1)) T x y a1 t2 e t5 t6 t7 t8 t9 t10 t11 t12 t13 t14 t15 t16 t17,[]⟩ (.inRegion (ctR1x Tryz.f28) l::k)) cs) w):HG Tryz.prog false rd Lv Stop (n+1) O (G ((base 28).at ⟨ctT D T x y a1 t2 e t5 t6 t7 t8 t9 t10 t11 t12 t13 t14 t15 t16 t17,[]⟩ (.inRegion (ctR1x Tryz.f28) (1::l)::k)) cs) w:=by
 rw[←ct_put1]at hn
 have hx:(ctT D T x y a1 t2 e t5 t6 t7 t8 t9 t10 t11 t12 t13 t14 t15 t16 t17).getD 5 undef = .pointer (some ⟨T,0,none⟩):=by simp[ctT,hD]
 refine hg_value (.pointer (some ⟨T,0,none⟩)) rfl rfl (by decide) (fun w1 h1=>?_) (fun w1 h1 E0 he=>?_) hn
 ·simp only[ctR1x,ctC1x,ctBodyx,Tryz.f28]
  generalize ctT D T x y a1 t2 e t5 t6 t7 t8 t9 t10 t11 t12 t13 t14 t15 t16 t17=X at hx
  have hx':X[5]?.getD undef = .pointer (some ⟨T,0,none⟩):=by rw[←hx,Array.getD_eq_getD_getElem?]
  go_simp
 ·have h0:∀E:Array Event,E = #[]→E0∈E→EvT rd O w1.heap.size E0:=fun E h h'=>by rw[h]at h';simp at h'
  refine h0 _ ?_ he
  clear he h0
  simp only[ctR1x,ctC1x,ctBodyx,Tryz.f28]
  generalize ctT D T x y a1 t2 e t5 t6 t7 t8 t9 t10 t11 t12 t13 t14 t15 t16 t17=X at hx
  have hx':X[5]?.getD undef = .pointer (some ⟨T,0,none⟩):=by rw[←hx,Array.getD_eq_getD_getElem?]
  simp[go_sem, *]
set_option maxRecDepth 100000 in
theorem ct_s2(hD:D 1=true)(hn:HG Tryz.prog false rd Lv Stop n O (G ((base 28).at ⟨ctT (fun x=>D x || decide (x=2)) T x y a1 t2 e t5 t6 t7 t8 t9 t10 t11 t12 t13 t14 t15 t16 t17,[]⟩ (.inRegion (ctR1x Tryz.f28) l::k)) cs) w):HG Tryz.prog false rd Lv Stop (n+1) O (G ((base 28).at ⟨ctT D T x y a1 t2 e t5 t6 t7 t8 t9 t10 t11 t12 t13 t14 t15 t16 t17,[]⟩ (.inRegion (ctR1x Tryz.f28) (2::l)::k)) cs) w:=by
 rw[←ct_put2]at hn
 have hx:(ctT D T x y a1 t2 e t5 t6 t7 t8 t9 t10 t11 t12 t13 t14 t15 t16 t17).getD 6 undef = .pointer (some ⟨T,0,none⟩):=by simp[ctT,hD]
 refine hg_value (.pointer (some ⟨T,0,none⟩)) rfl rfl (by decide) (fun w1 h1=>?_) (fun w1 h1 E0 he=>?_) hn
 ·simp only[ctR1x,ctC1x,ctBodyx,Tryz.f28]
  generalize ctT D T x y a1 t2 e t5 t6 t7 t8 t9 t10 t11 t12 t13 t14 t15 t16 t17=X at hx
  have hx':X[6]?.getD undef = .pointer (some ⟨T,0,none⟩):=by rw[←hx,Array.getD_eq_getD_getElem?]
  go_simp
 ·have h0:∀E:Array Event,E = #[]→E0∈E→EvT rd O w1.heap.size E0:=fun E h h'=>by rw[h]at h';simp at h'
  refine h0 _ ?_ he
  clear he h0
  simp only[ctR1x,ctC1x,ctBodyx,Tryz.f28]
  generalize ctT D T x y a1 t2 e t5 t6 t7 t8 t9 t10 t11 t12 t13 t14 t15 t16 t17=X at hx
  have hx':X[6]?.getD undef = .pointer (some ⟨T,0,none⟩):=by rw[←hx,Array.getD_eq_getD_getElem?]
  simp[go_sem, *]
set_option maxRecDepth 100000 in
theorem ct_s3(hn:HG Tryz.prog false rd Lv Stop n O (G ((base 28).at ⟨ctT (fun x=>D x || decide (x=3)) T x y a1 t2 e t5 t6 t7 t8 t9 t10 t11 t12 t13 t14 t15 t16 t17,[]⟩ (.inRegion (ctR1x Tryz.f28) l::k)) cs) w):HG Tryz.prog false rd Lv Stop (n+1) O (G ((base 28).at ⟨ctT D T x y a1 t2 e t5 t6 t7 t8 t9 t10 t11 t12 t13 t14 t15 t16 t17,[]⟩ (.inRegion (ctR1x Tryz.f28) (3::l)::k)) cs) w:=by
 rw[←ct_put3]at hn
 refine hg_value (.pointer (some ⟨x,1,none⟩)) rfl rfl (by decide) (fun w1 h1=>?_) (fun w1 h1 E0 he=>?_) hn
 ·simp only[ctR1x,ctC1x,ctBodyx,Tryz.f28]
  simp only[ctT]
  go_simp
 ·have h0:∀E:Array Event,E = #[]→E0∈E→EvT rd O w1.heap.size E0:=fun E h h'=>by rw[h]at h';simp at h'
  refine h0 _ ?_ he
  clear he h0
  simp only[ctR1x,ctC1x,ctBodyx,Tryz.f28]
  simp only[ctT]
  simp[go_sem, *]
set_option maxRecDepth 100000 in
theorem ct_s4(hD:D 3=true)(ho:O x)(hc:w.cell? ⟨x,1,none⟩=some (.int .i64 e))(hn:HG Tryz.prog false rd Lv Stop n O (G ((base 28).at ⟨ctT (fun x=>D x || decide (x=4)) T x y a1 t2 e t5 t6 t7 t8 t9 t10 t11 t12 t13 t14 t15 t16 t17,[]⟩ (.inRegion (ctR1x Tryz.f28) l::k)) cs) w):HG Tryz.prog false rd Lv Stop (n+1) O (G ((base 28).at ⟨ctT D T x y a1 t2 e t5 t6 t7 t8 t9 t10 t11 t12 t13 t14 t15 t16 t17,[]⟩ (.inRegion (ctR1x Tryz.f28) (4::l)::k)) cs) w:=by
 rw[←ct_put4]at hn
 have hx:(ctT D T x y a1 t2 e t5 t6 t7 t8 t9 t10 t11 t12 t13 t14 t15 t16 t17).getD 8 undef = .pointer (some ⟨x,1,none⟩):=by simp[ctT,hD]
 refine hg_load (.int .i64 e) rfl rfl (by decide) (Or.inr ho) hc (fun w1 h1=>?_) (fun w1 h1=>?_) hn
 ·simp only[ctR1x,ctC1x,ctBodyx,Tryz.f28]
  generalize ctT D T x y a1 t2 e t5 t6 t7 t8 t9 t10 t11 t12 t13 t14 t15 t16 t17=X at hx
  have hx':X[8]?.getD undef = .pointer (some ⟨x,1,none⟩):=by rw[←hx,Array.getD_eq_getD_getElem?]
  go_simp
 ·simp only[ctR1x,ctC1x,ctBodyx,Tryz.f28]
  generalize ctT D T x y a1 t2 e t5 t6 t7 t8 t9 t10 t11 t12 t13 t14 t15 t16 t17=X at hx
  have hx':X[8]?.getD undef = .pointer (some ⟨x,1,none⟩):=by rw[←hx,Array.getD_eq_getD_getElem?]
  simp[go_sem, *]
end
end
section
open Go.Conc Go.RowKit Go.ConcR.Gen
section
variable {rd:Nat→Prop}{Lv:World→Prop}{O:Nat→Prop}{w:World}{Next:(Nat→Prop)→Goroutine→World→Prop}{n m T x y:Nat}{F:World→Prop}{b₀:Frame}{a₀:Act}{ops:Array Oper}{i:Nat}{rest:List Nat}{k:List Item}{cs:List Frame}{go:Option Addr}{gn gc:Nat}{e:Int}{l:Bool}
set_option maxRecDepth 100000 in
set_option maxHeartbeats 4000000 in
theorem count_kept(L:FLoc rd O T F)(hx:x≠T)(hy:y≠T)(hxy:x≠y)(hOy:¬O y)(hry:¬rd y){t0 t2 t5 t6 t7 t8 t9 t10 t11 t12 t13 t14 t15 t16 t17:Value}{t1:Value}
  (hcont:∀w O',(∀b,O b→O' b)→F w→HG Tryz.prog false rd Lv Next m O' (G ((b₀.at a₀ (.inRegion ops (i::rest)::k)).finish (.agg #[.slice go gn gc,.int .i64 e,.bool false])) cs) w) (hF:CtF F x y go gn gc e false w) :
  HG Tryz.prog false rd Lv Next (m+80) (fun z=>(O z∨z=x)∨z=y) (G ((base 28).at ⟨#[t0,t1,t2,.pointer (some ⟨x,0,none⟩),.pointer (some ⟨y,0,none⟩),t5,t6,t7,t8,t9,t10,t11,t12,t13,t14,t15,t16,t17],[]⟩ [.code (ctC2x Tryz.f28)]) (b₀.at a₀ (.inRegion ops (i::rest)::k)::cs)) w:=by
 have L1:=L.more (.cells #[.slice go gn gc,.int .i64 e,.bool false] 39) hx
 have L2:=L1.more (.cells #[.slice none 0 0,.int .i64 0,.bool false] 39) hy
 have RL:∀ {w w1:World},CtF F x y go gn gc e false w→Rly rd Lv (fun z=>(O z∨z=x)∨z=y) w w1→CtF F x y go gn gc e false w1:=fun h r=>L2.rely h r
 have hend:∀(w:World),CtF F x y go gn gc e false w→HG Tryz.prog false rd Lv Next (m+40) (fun z=>(O z∨z=x)∨z=y) (G ((base 28).at ⟨#[t0,t1,t2,.pointer (some ⟨x,0,none⟩),.pointer (some ⟨y,0,none⟩),t5,t6,t7,t8,t9,t10,.pointer (some ⟨x,2,none⟩),.bool false,t13,t14,t15,t16,t17],[]⟩ [.code (ctC3x Tryz.f28)]) (b₀.at a₀ (.inRegion ops (i::rest)::k)::cs)) w:=fun w hF=>count_end L hx hy hxy hOy hry hcont hF
 generalize hgC:(ctC3x Tryz.f28)=C3 at hend
 simp only[ctC2x,ctC1x,ctBodyx,Tryz.f28]
 simp only[ctC3x,ctC2x,ctC1x,ctBodyx,Tryz.f28]at hgC
 rw[hgC]
 refine goes_hg (n:=10) (m:=m+70) ?_
 u_c stepG_seq RL hF
 u_c stepG_seq RL hF
 u_reg RL hF
 u_op RL hF
 refine Goes.stop (fun w₁ h₁=>?_)
 replace hF:=RL hF h₁
 clear h₁
 refine hg_up 19 (n:=m+51) ?_
 refine hg_load (.bool false) rfl rfl (by decide) (Or.inr (Or.inl (Or.inr rfl))) (cell_of (o:=2) hF.1.2 rfl) (fun w1 h1=>by go_simp) (fun w1 h1=>by simp[go_sem, *]) ?_
 walk_nrm
 refine goes_hg (n:=10) (m:=m+40) ?_
 u_c stepG_region_end RL hF
 u_cond false RL hF
 u_c stepG_skip RL hF
 refine Goes.stop (fun w₁ h₁=>?_)
 exact hend _ (RL hF h₁)
def CtN(rd:Nat→Prop)(Lv:World→Prop)(Next:(Nat→Prop)→Goroutine→World→Prop)(m T:Nat)(l:Bool):(Nat→Prop)→Goroutine→World→Prop:=if l then AtAdd rd Lv Next (m+80) T 1 1 else Next
theorem count_mid(L:FLoc rd O T F)(hx:x≠T)(hy:y≠T)(hxy:x≠y)(hOy:¬O y)(hry:¬rd y){t2 t5 t6 t7 t8 t9 t10 t11 t12 t13 t14 t15 t16 t17:Value}{t1:Value}
  (hcont:∀w O',(∀b,O b→O' b)→F w→HG Tryz.prog false rd Lv Next m O' (G ((b₀.at a₀ (.inRegion ops (i::rest)::k)).finish (.agg #[.slice go gn gc,.int .i64 e,.bool l])) cs) w) (hF:CtF F x y go gn gc e l w) :
  HG Tryz.prog false rd Lv (CtN rd Lv Next m T l) (m+80) (fun z=>(O z∨z=x)∨z=y) (G ((base 28).at ⟨#[.pointer (some ⟨T,0,none⟩),t1,t2,.pointer (some ⟨x,0,none⟩),.pointer (some ⟨y,0,none⟩),t5,t6,t7,t8,t9,t10,t11,t12,t13,t14,t15,t16,t17],[]⟩ [.code (ctC2x Tryz.f28)]) (b₀.at a₀ (.inRegion ops (i::rest)::k)::cs)) w:=by
 cases l with
 | true=>
  rw[Nat.add_comm]
  exact hg_up m (count_lost L hx hy hxy hOy hry hcont hF)
 | false=>exact count_kept L hx hy hxy hOy hry hcont hF
def unD(D:Nat→Bool):Nat→Nat
 | 0=>0
 |n+1=>(bif D n then 0 else 1)+unD D n
theorem unD_step {D:Nat→Bool}{j:Nat}(h:D j=false):∀n,j<n→unD D n=unD (fun x=>D x || decide (x=j)) n+1
 | 0,hn=>by omega
 |n+1,hn=>by
  have aux:∀n,n≤j→unD (fun x=>D x || decide (x=j)) n=unD D n:=by
   intro n
   induction n with
   | zero=>intro _;rfl
   | succ n ih=>
    intro hn
    simp only[unD]
    rw[ih (by omega),decide_eq_false (by omega:¬n=j),Bool.or_false]
  rcases Nat.lt_or_ge j n with hl|hl
  ·simp only[unD]
   rw[unD_step h n hl,decide_eq_false (by omega:¬n=j),Bool.or_false]
   omega
  ·have e:n=j:=by omega
   subst e
   simp only[unD]
   rw[aux n (Nat.le_refl _),h]
   simp
   omega
set_option maxRecDepth 100000 in
set_option maxHeartbeats 4000000 in
theorem count_draw(L:FLoc rd O T F)(hx:x≠T)(hy:y≠T)(hxy:x≠y)(hOy:¬O y)(hry:¬rd y){a1 t2 t5 t6 t7 t8 t9 t10 t11 t12 t13 t14 t15 t16 t17:Value}
  (hcont:∀w O',(∀b,O b→O' b)→F w→HG Tryz.prog false rd Lv Next m O' (G ((b₀.at a₀ (.inRegion ops (i::rest)::k)).finish (.agg #[.slice go gn gc,.int .i64 e,.bool l])) cs) w) :
  ∀(q:List Nat) (D:Nat→Bool) (w:World),Val (ctR1x Tryz.f28) D q→D 5=false→(D 1=true→D 0=true)→(D 2=true→D 1=true)→(D 4=true→D 3=true)→CtF F x y go gn gc e l w →
   HG Tryz.prog false rd Lv (AtAdd rd Lv (CtN rd Lv Next m T l) (m+110) T 0 e) (unD D 6+30) (fun z=>(O z∨z=x)∨z=y) (G ((base 28).at ⟨ctT D T x y a1 t2 e t5 t6 t7 t8 t9 t10 t11 t12 t13 t14 t15 t16 t17,[]⟩ [.inRegion (ctR1x Tryz.f28) q,.code (ctC2x Tryz.f28)]) (b₀.at a₀ (.inRegion ops (i::rest)::k)::cs)) w:=by
 have L1:=L.more (.cells #[.slice go gn gc,.int .i64 e,.bool l] 39) hx
 have L2:=L1.more (.cells #[.slice none 0 0,.int .i64 0,.bool false] 39) hy
 have RL:∀ {w w1:World},CtF F x y go gn gc e l w→Rly rd Lv (fun z=>(O z∨z=x)∨z=y) w w1→CtF F x y go gn gc e l w1:=fun h r=>L2.rely h r
 intro q
 induction q with
 | nil=>
  intro D w hV h5
  rw[ct_nil hV]at h5
  cases h5
 | cons j q ih=>
  intro D w hV h5 h01 h12 h34 hF
  obtain⟨hj,hD,hV',d1,d2,d4,d5⟩:=ct_dep hV
  rw[unD_step hD 6 hj,Nat.add_right_comm]
  rcases(by omega:j=0∨j=1∨j=2∨j=3∨j=4∨j=5)with rfl|rfl|rfl|rfl|rfl|rfl
  ·refine ct_s0 (ih _ w hV' (by simpa using h5) ?_ ?_ ?_ hF)<;>simp<;>first|assumption|exact h01 (d2 rfl)
  ·refine ct_s1 (d1 rfl) (ih _ w hV' (by simpa using h5) ?_ ?_ ?_ hF)<;>simp[d1 rfl]<;>first|assumption|exact h01 (d2 rfl)
  ·refine ct_s2 (d2 rfl) (ih _ w hV' (by simpa using h5) ?_ ?_ ?_ hF)<;>simp[d2 rfl]<;>first|assumption|exact h01 (d2 rfl)
  ·refine ct_s3 (ih _ w hV' (by simpa using h5) ?_ ?_ ?_ hF)<;>simp<;>first|assumption|exact h01 (d2 rfl)
  ·refine ct_s4 (d4 rfl) (Or.inl (Or.inr rfl)) (cell_of (o:=1) hF.1.2 rfl) (ih _ w hV' (by simpa using h5) ?_ ?_ ?_ hF)<;>simp[d4 rfl]<;>first|assumption|exact h01 (d2 rfl)
  ·have k2:=(d5 rfl).1
   have k4:=(d5 rfl).2
   have k1:=h12 k2
   have k0:=h01 k1
   have k3:=h34 k4
   have hq:q=[]:=by
    cases q with
    | nil=>rfl
    | cons j2 q2=>
     obtain⟨hj2,hD2,_⟩:=ct_dep hV'
     rcases(by omega:j2=0∨j2=1∨j2=2∨j2=3∨j2=4∨j2=5)with rfl|rfl|rfl|rfl|rfl|rfl<;>simp[*]at hD2
   subst hq
   simp only[ctT,k0,k1,k2,k3,k4,if_true]
   generalize unD (fun x=>D x || decide (x=5)) 6=u
   rw[show u+30+1=31+u by omega]
   refine hg_up u (n:=31) ?_
   refine hg_up 10 (n:=21) ?_
   generalize hgC:(ctC2x Tryz.f28)=C2
   simp only[ctR1x,ctC1x,ctBodyx,Tryz.f28]
   refine hg_call (f:=55) (vs := #[.pointer (some ⟨T,0,none⟩),.int .i64 e]) rfl rfl (by decide) rfl Tryz.func55 (by kernel_rfl) (by kernel_rfl) (by go_simp) ?_
   refine add_walk (m:=m+90) RL (fun w v h=>L2.setT w v h) (fun v w hF=>?_) hF
   walk_nrm
   refine goes_hg (n:=10) (m:=m+80) ?_
   u_c stepG_region_end RL hF
   refine Goes.stop (fun w₁ h₁=>?_)
   subst hgC
   exact count_mid L hx hy hxy hOy hry hcont (RL hF h₁)
end
end
section
open Go.Conc Go.RowKit Go.ConcR.Gen
section
variable {rd:Nat→Prop}{Lv:World→Prop}{O:Nat→Prop}{w:World}{Next:(Nat→Prop)→Goroutine→World→Prop}{n m T x y:Nat}{F:World→Prop}{b₀:Frame}{a₀:Act}{ops:Array Oper}{i:Nat}{rest:List Nat}{k:List Item}{cs:List Frame}{go:Option Addr}{gn gc:Nat}{e:Int}{l:Bool}
set_option maxRecDepth 100000 in
set_option maxHeartbeats 4000000 in
theorem count_r1(hLv:∀w d, Lv w→Lv (w.at d))(L:FLoc rd O T F)(hx:x≠T)(hy:y≠T)(hxy:x≠y)(hOy:¬O y)(hry:¬rd y){a1 t2 t5 t6 t7 t8 t9 t10 t11 t12 t13 t14 t15 t16 t17:Value}
  (hcont:∀w O',(∀b,O b→O' b)→F w→HG Tryz.prog false rd Lv Next m O' (G ((b₀.at a₀ (.inRegion ops (i::rest)::k)).finish (.agg #[.slice go gn gc,.int .i64 e,.bool l])) cs) w) (hF:CtF F x y go gn gc e l w) :
  HG Tryz.prog false rd Lv (AtAdd rd Lv (CtN rd Lv Next m T l) (m+110) T 0 e) 47 (fun z=>(O z∨z=x)∨z=y) (G ((base 28).at ⟨#[.pointer (some ⟨T,0,none⟩),a1,t2,.pointer (some ⟨x,0,none⟩),.pointer (some ⟨y,0,none⟩),t5,t6,t7,t8,t9,t10,t11,t12,t13,t14,t15,t16,t17],[]⟩ [.code (ctC1x Tryz.f28)]) (b₀.at a₀ (.inRegion ops (i::rest)::k)::cs)) w:=by
 have L1:=L.more (.cells #[.slice go gn gc,.int .i64 e,.bool l] 39) hx
 have L2:=L1.more (.cells #[.slice none 0 0,.int .i64 0,.bool false] 39) hy
 have RL2:∀ {w w1:World},CtF F x y go gn gc e l w→Rly rd Lv (fun z=>(O z∨z=x)∨z=y) w w1→CtF F x y go gn gc e l w1:=fun h r=>L2.rely h r
 have ec:(ctC1x Tryz.f28) = .seq (.region 1 (ctR1x Tryz.f28) true) (ctC2x Tryz.f28):=rfl
 have eT:(#[.pointer (some ⟨T,0,none⟩),a1,t2,.pointer (some ⟨x,0,none⟩),.pointer (some ⟨y,0,none⟩),t5,t6,t7,t8,t9,t10,t11,t12,t13,t14,t15,t16,t17]:Array Value)=ctT (fun i=>decide ((ctR1x Tryz.f28).size≤i)) T x y a1 t2 e t5 t6 t7 t8 t9 t10 t11 t12 t13 t14 t15 t16 t17:=by
  have hsz:(ctR1x Tryz.f28).size=6:=by kernel_rfl
  rw[hsz]
  simp[ctT]
 rw[ec,eT]
 refine goes_hg (n:=10) (m:=37) ?_
 u_c stepG_seq RL2 hF
 refine Goes.stop (fun w₁ h₁=>?_)
 replace hF:=RL2 hF h₁
 refine hg_draw (n:=36) (by kernel_rfl) ct_on hLv (fun q hq=>?_)
 have:=count_draw (m:=m) L hx hy hxy hOy hry hcont q _ w₁ hq (by rw[show(ctR1x Tryz.f28).size=6 by kernel_rfl];rfl) (by rw[show(ctR1x Tryz.f28).size=6 by kernel_rfl];simp) (by rw[show(ctR1x Tryz.f28).size=6 by kernel_rfl];simp) (by rw[show(ctR1x Tryz.f28).size=6 by kernel_rfl];simp) hF (a1:=a1) (t2:=t2) (t5:=t5) (t6:=t6) (t7:=t7) (t8:=t8) (t9:=t9) (t10:=t10) (t11:=t11) (t12:=t12) (t13:=t13) (t14:=t14) (t15:=t15) (t16:=t16) (t17:=t17)
 have e6:unD (fun i=>decide ((ctR1x Tryz.f28).size≤i)) 6=6:=by
  rw[show(ctR1x Tryz.f28).size=6 by kernel_rfl]
  rfl
 rw[e6]at this
 exact this
set_option maxRecDepth 100000 in
set_option maxHeartbeats 4000000 in
theorem count_walk(hLv:∀w d, Lv w→Lv (w.at d))(L:FLoc rd O T F)(hF:F w)
  (hcont:∀w O',(∀b,O b→O' b)→F w→HG Tryz.prog false rd Lv Next m O' (G ((b₀.at a₀ (.inRegion ops (i::rest)::k)).finish (.agg #[.slice go gn gc,.int .i64 e,.bool l])) cs) w) :
  HG Tryz.prog false rd Lv (AtAdd rd Lv (CtN rd Lv Next m T l) (m+110) T 0 e) 80 O (G (Frame.enter Tryz.prog 28 #[.pointer (some ⟨T,0,none⟩),.agg #[.slice go gn gc,.int .i64 e,.bool l]] .normal) (b₀.at a₀ (.inRegion ops (i::rest)::k)::cs)) w:=by
 have RL:∀ {w w1:World},F w→Rly rd Lv O w w1→F w1:=fun h r=>L.rely h r
 have hR:∀(x y:Nat) (w:World),x≠T→y≠T→x≠y→¬O y→¬rd y→CtF F x y go gn gc e l w→HG Tryz.prog false rd Lv (AtAdd rd Lv (CtN rd Lv Next m T l) (m+110) T 0 e) 47 (fun z=>(O z∨z=x)∨z=y) (G ((base 28).at ⟨#[.pointer (some ⟨T,0,none⟩),.agg #[.slice go gn gc,.int .i64 e,.bool l],undef,.pointer (some ⟨x,0,none⟩),.pointer (some ⟨y,0,none⟩),undef,undef,undef,undef,undef,undef,undef,undef,undef,undef,undef,undef,undef],[]⟩ [.code (ctC1x Tryz.f28)]) (b₀.at a₀ (.inRegion ops (i::rest)::k)::cs)) w:=fun x y w hx hy hxy hO hr hF=>count_r1 hLv L hx hy hxy hO hr hcont hF
 rw[enter_at _ Tryz.func28 rfl]
 generalize hgC:(ctC1x Tryz.f28)=C1 at hR
 walk_nrmf Tryz.f28
 simp only[ctC1x,ctBodyx,Tryz.f28]at hgC
 rw[hgC]
 clear hgC hcont
 refine goes_hg (n:=10) (m:=70) ?_
 u_c stepG_seq RL hF
 u_reg RL hF
 refine Goes.stop (fun w₁ h₁=>?_)
 replace hF:=RL hF h₁
 clear h₁
 refine hg_up 10 (n:=60) ?_
 refine hg_alloc L hF (.cells #[.slice go gn gc,.int .i64 e,.bool l] 39) rfl rfl (by decide) (fun w1=>by go_simp) (fun w1=>by simp[go_sem]) (fun x w2 hF2 hx2 hOx hrx hxT=>?_)
 have L1:=L.more (.cells #[.slice go gn gc,.int .i64 e,.bool l] 39) hxT
 replace hF:=And.intro hF2 hx2
 clear hF2 hx2
 walk_nrm
 refine hg_alloc L1 hF (.cells #[.slice none 0 0,.int .i64 0,.bool false] 39) rfl rfl (by decide) (fun w1=>by go_simp) (fun w1=>by simp[go_sem]) (fun y w3 hF3 hy3 hOy hry hyT=>?_)
 have L2:=L1.more (.cells #[.slice none 0 0,.int .i64 0,.bool false] 39) hyT
 replace hF:CtF F x y go gn gc e l w3:=And.intro hF3 hy3
 clear hF3 hy3
 have RL2:∀ {w w1:World},CtF F x y go gn gc e l w→Rly rd Lv (fun z=>(O z∨z=x)∨z=y) w w1→CtF F x y go gn gc e l w1:=fun h r=>L2.rely h r
 walk_nrm
 refine hg_up 1 (n:=57) ?_
 refine goes_hg (n:=10) (m:=47) ?_
 u_c stepG_region_end RL2 hF
 refine Goes.stop (fun w₁ h₁=>?_)
 exact hR x y w₁ hxT hyT (fun e=>hOy (Or.inr e.symm)) (fun c=>hOy (Or.inl c)) hry (RL2 hF h₁)
end
end
section
open Go.Conc
theorem Stp.more {rd O O':Nat→Prop}{w w1:World}{es:Array Event}(h:Stp rd O w w1 es)(hO:∀b,O b→O' b):Stp rd O' w w1 es:=
 ⟨h.tape,h.os,h.out,h.size,fun b hl ho=>h.other b hl fun c=>ho (hO b c),fun e he=>(h.ev e he).mono (fun _ x=>x) fun b hb=>hb.imp (hO b) id⟩
section
variable {P:Program}{main:Bool}{rd:Nat→Prop}{Lv:World→Prop}{Stop:(Nat→Prop)→Goroutine→World→Prop}{O O' Oc Z:Nat→Prop}{n:Nat}{g:Goroutine}{w w1 w2:World}{c:Nat→Option Obj}
def LftZ(Oc Z:Nat→Prop)(c:Nat→Option Obj)(Stop:(Nat→Prop)→Goroutine→World→Prop)(B:Nat→Prop)(g:Goroutine)(w:World):Prop:=
 ∃A,Stop A g w∧(∀b,A b→B b)∧(∀b,Oc b→B b)∧∀b,Z b→¬A b∧w.heap[b]?=c b
theorem HG.lift(h:HG P main rd Lv Stop n O g w)(hO:∀b,O b→O' b)(hc:∀b,Oc b→O' b)(hZ:∀b,Z b→O' b∧¬O b∧b<w.heap.size∧w.heap[b]?=c b):HG P main rd Lv (LftZ Oc Z c Stop) n O' g w:=by
 induction n generalizing O O' g w with
 | zero=>exact fun w1 h1=>⟨O,h w1 (h1.less hO),hO,hc,fun b hb=>⟨(hZ b hb).2.1,(h1.stb b (Or.inr (hZ b hb).1)).trans (hZ b hb).2.2.2⟩⟩
 | succ n ih=>
  rcases h with h|⟨hs,h⟩
  ·exact .inl fun w1 h1=>⟨O,h w1 (h1.less hO),hO,hc,fun b hb=>⟨(hZ b hb).2.1,(h1.stb b (Or.inr (hZ b hb).1)).trans (hZ b hb).2.2.2⟩⟩
  ·refine .inr ⟨hs,fun w1 h1=>?_⟩
   have:=h w1 (h1.less hO)
   cases hg:stepG P main g w1 with
   | go g' w' es=>
    rw[hg]at this
    obtain⟨h2,h3⟩:=this
    refine⟨h2.more hO,ih h3 (fun b hb=>hb.imp (hO b) id) (fun b hb=>Or.inl (hc b hb)) fun b hb=>?_⟩
    obtain⟨z1,z2,z3,z4⟩:=hZ b hb
    have z5:b<w1.heap.size:=Nat.lt_of_lt_of_le z3 h1.size
    refine⟨Or.inl z1,fun x=>x.elim z2 fun x=>?_,Nat.lt_of_lt_of_le z5 h2.size,?_⟩
    ·have:=x.1;omega
    ·rw[h2.other b z5 z2,h1.stb b (Or.inr z1),z4]
   | _=>rw[hg]at this;exact this.elim
end
end
section
open Go.Conc Go.RowKit Go.ConcR.Gen
def rnBodyx(f:Func):Code:=match f.body with|some c=>c|_=> .skip
def rnC1x(f:Func):Code:=match rnBodyx f with | .seq _ c=>c|_=> .skip
def rnR1x(f:Func):Array Oper:=match rnC1x f with | .seq (.region _ ops _) _=>ops|_ => #[]
def rnFramex(f:Func)(wv xs:Value)(T b6 b7 b8 u:Nat)(q k:Int):Frame:=
 (base 27).at ⟨#[wv,.pointer (some ⟨T,0,none⟩),.pointer (some ⟨b6,0,none⟩),.pointer (some ⟨b7,0,none⟩),.pointer (some ⟨b8,0,none⟩),undef,.pointer (some ⟨u,0,none⟩),.int .i64 q,xs,.int .i64 k,wv,undef,undef],[]⟩ [.inRegion (rnR1x f) [4,5,6],.code .ret]
structure RnF(rd:Nat→Prop)(F:World→Prop)(b6 b7 b8:Nat)(q k:Int)(xs:Value):Prop where
 r6:rd b6
 r7:rd b7
 r8:rd b8
 c6:∀w,F w→w.cell? ⟨b6,0,none⟩=some (.int .i64 q)
 c7:∀w,F w→w.cell? ⟨b7,0,none⟩=some xs
 c8:∀w,F w→w.cell? ⟨b8,0,none⟩=some (.int .i64 k)
section
variable {rd:Nat→Prop}{Lv:World→Prop}{O:Nat→Prop}{w:World}{Next:(Nat→Prop)→Goroutine→World→Prop}{n m T b6 b7 b8 u:Nat}{F:World→Prop}{fr:Frame}{cs:List Frame}{go:Option Addr}{gn gc:Nat}{e q k:Int}{l:Bool}{wv xs:Value}
def GotZ(u:Nat)(w:World):Prop:=w.heap[u]?=some (.cells #[.slice none 0 0,.int .i64 0,.bool false] 39)
def StM(rd:Nat→Prop)(F:World→Prop)(wv xs:Value)(T b6 b7 b8:Nat)(q k:Int)(fr:Frame)(cs:List Frame)(O:Nat→Prop)(O':Nat→Prop)(g:Goroutine)(w:World):Prop:=
 ∃u,u≠T∧¬O u∧¬rd u∧(O'=fun z=>O z∨z=u)∧F w∧GotZ u w∧g=G (Frame.enter Tryz.prog 29 #[.int .i64 q,xs,.int .i64 k,wv] .normal) ((rnFramex Tryz.f27) wv xs T b6 b7 b8 u q k::fr::cs)
set_option maxRecDepth 100000 in
set_option maxHeartbeats 4000000 in
theorem run1_walk(L:FLoc rd O T F)(hR:RnF rd F b6 b7 b8 q k xs)(hF:F w) :
  HG Tryz.prog false rd Lv (StM rd F wv xs T b6 b7 b8 q k fr cs O) 60 O (G (Frame.enter Tryz.prog 27 #[wv,.pointer (some ⟨T,0,none⟩),.pointer (some ⟨b6,0,none⟩),.pointer (some ⟨b7,0,none⟩),.pointer (some ⟨b8,0,none⟩)] .normal) (fr::cs)) w:=by
 have RL:∀ {w w1:World},F w→Rly rd Lv O w w1→F w1:=fun h r=>L.rely h r
 have hS:∀(u:Nat) (w:World),u≠T→¬O u→¬rd u→F w→GotZ u w→StM rd F wv xs T b6 b7 b8 q k fr cs O (fun z=>O z∨z=u) (G (Frame.enter Tryz.prog 29 #[.int .i64 q,xs,.int .i64 k,wv] .normal) ((rnFramex Tryz.f27) wv xs T b6 b7 b8 u q k::fr::cs)) w:=fun u w h1 h2 h3 h4 h5=>⟨u,h1,h2,h3,rfl,h4,h5,rfl⟩
 generalize StM rd F wv xs T b6 b7 b8 q k fr cs O=Stop at hS ⊢
 simp only[rnFramex,rnR1x,rnC1x,rnBodyx,Tryz.f27]at hS
 rw[enter_at _ Tryz.func27 rfl]
 walk_nrmf Tryz.f27
 refine goes_hg (n:=10) (m:=50) ?_
 u_c stepG_seq RL hF
 u_reg RL hF
 refine Goes.stop (fun w₁ h₁=>?_)
 replace hF:=RL hF h₁
 clear h₁
 refine hg_alloc L hF (.cells #[.slice none 0 0,.int .i64 0,.bool false] 39) rfl rfl (by decide) (fun w1=>by go_simp) (fun w1=>by simp[go_sem]) (fun u w2 hF2 hu hOu hru huT=>?_)
 have L1:=L.more (.cells #[.slice none 0 0,.int .i64 0,.bool false] 39) huT
 replace hF:=And.intro hF2 hu
 clear hF2 hu
 have RL1:∀ {w w1:World},(F w∧w.heap[u]?=some (.cells #[.slice none 0 0,.int .i64 0,.bool false] 39))→Rly rd Lv (fun z=>O z∨z=u) w w1→(F w1∧w1.heap[u]?=some (.cells #[.slice none 0 0,.int .i64 0,.bool false] 39)):=fun h r=>L1.rely h r
 walk_nrm
 refine hg_up 29 (n:=20) ?_
 refine goes_hg (n:=10) (m:=10) ?_
 u_c stepG_region_end RL1 hF
 u_c stepG_seq RL1 hF
 u_reg RL1 hF
 refine Goes.stop (fun w₁ h₁=>?_)
 replace hF:=RL1 hF h₁
 clear h₁
 refine hg_load (.int .i64 q) rfl rfl (by decide) (Or.inl hR.r6) (hR.c6 _ hF.1) (fun w1 h1=>by go_simp) (fun w1 h1=>by simp[go_sem, *]) ?_
 walk_nrm
 refine hg_load xs rfl rfl (by decide) (Or.inl hR.r7) (hR.c7 _ hF.1) (fun w1 h1=>by go_simp) (fun w1 h1=>by simp[go_sem, *]) ?_
 walk_nrm
 refine hg_load (.int .i64 k) rfl rfl (by decide) (Or.inl hR.r8) (hR.c8 _ hF.1) (fun w1 h1=>by go_simp) (fun w1 h1=>by simp[go_sem, *]) ?_
 walk_nrm
 refine hg_up 1 (n:=6) ?_
 refine goes_hg (n:=4) (m:=2) ?_
 u_op RL1 hF
 refine Goes.stop (fun w₁ h₁=>?_)
 replace hF:=RL1 hF h₁
 clear h₁
 refine hg_call (f:=29) (vs := #[.int .i64 q,xs,.int .i64 k,wv]) rfl rfl (by decide) rfl Tryz.func29 (by kernel_rfl) (by kernel_rfl) (by go_simp) ?_
 refine HG.stop (fun w2 h2=>?_)
 have hF2:=RL1 hF h2
 exact hS u w2 huT hOu hru hF2.1 hF2.2
end
end
section
open Go.Conc Go.RowKit Go.ConcR.Gen
section
variable {rd:Nat→Prop}{Lv:World→Prop}{O:Nat→Prop}{w:World}{Next:(Nat→Prop)→Goroutine→World→Prop}{n m T b6 b7 b8 u:Nat}{F:World→Prop}{fr:Frame}{cs:List Frame}{go:Option Addr}{gn gc:Nat}{e q k:Int}{l:Bool}{wv xs:Value}
set_option maxRecDepth 100000 in
set_option maxHeartbeats 4000000 in
theorem run1_end(L:FLoc rd O T F){O':Nat→Prop}(hu:¬O u)(hru:¬rd u)(huT:u≠T)(hO:∀b, O b∨b=u→O' b){t0 t1 t2 t3 t4 t5 t7 t8 t9 t10 t11:Value}
  (hcont:∀w,F w→HG Tryz.prog false rd Lv Next m O' (G (fr.finish (.agg #[.slice go gn gc,.int .i64 e,.bool l])) cs) w) (hF:F w∧GotZ u w) :
  HG Tryz.prog false rd Lv Next (m+20) O' (G (((base 27).at ⟨#[t0,t1,t2,t3,t4,t5,.pointer (some ⟨u,0,none⟩),t7,t8,t9,t10,t11,undef],[]⟩ [.inRegion (rnR1x Tryz.f27) [5,6],.code .ret]).finish (.agg #[.slice go gn gc,.int .i64 e,.bool l])) (fr::cs)) w:=by
 have L1:=L.more (.cells #[.slice none 0 0,.int .i64 0,.bool false] 39) huT
 have L3:=L.more (.cells #[.slice go gn gc,.int .i64 e,.bool l] 39) huT
 have RL:∀ {w w1:World},(F w∧GotZ u w)→Rly rd Lv O' w w1→(F w1∧GotZ u w1):=fun h r=>L1.rely h (r.less hO)
 simp only[rnR1x,rnC1x,rnBodyx,Tryz.f27]
 rw[Frame.finish_at]
 walk_nrm
 refine hg_up 9 (n:=m+11) ?_
 refine hg_store3 (x:=u) (v0:= .slice go gn gc) (v1:= .int .i64 e) (v2:= .bool l) RL hF (hO _ (Or.inr rfl)) (fun w h=>h.2) rfl rfl (by decide) (fun w1 h1=>?_) (fun w1 h1=>?_) (fun w2 hw2 hu2=>?_)
 ·have c0:=cell_of (o:=0) h1 rfl
  have f0:=thaw_of h1 0
  have h2:=set_of h1 0 (.slice go gn gc)
  have c1:=cell_of (o:=1) h2 rfl
  have f1:=thaw_of h2 1
  have h3:=set_of h2 1 (.int .i64 e)
  have c2:=cell_of (o:=2) h3 rfl
  have f2:=thaw_of h3 2
  go_simp
 ·have c0:=cell_of (o:=0) h1 rfl
  have f0:=thaw_of h1 0
  have h2:=set_of h1 0 (.slice go gn gc)
  have c1:=cell_of (o:=1) h2 rfl
  have f1:=thaw_of h2 1
  have h3:=set_of h2 1 (.int .i64 e)
  have c2:=cell_of (o:=2) h3 rfl
  have f2:=thaw_of h3 2
  simp[go_sem, *]
  rw[events_store (hv:=rfl),events_store (hv:=rfl),c0,c2]
  simp only[f0,f2]
  rfl
 ·replace hF:F w2∧w2.heap[u]?=some (.cells #[.slice go gn gc,.int .i64 e,.bool l] 39):=by
   obtain⟨w1,f1,hs,hz⟩:=hw2
   refine⟨L.keep w1 w2 (fun b hb=>hs b fun e=>?_) (by omega) f1.1,hu2⟩
   subst e
   exact hb.elim hu hru
  clear hw2 hu2
  have RL3:∀ {w w1:World},(F w∧w.heap[u]?=some (.cells #[.slice go gn gc,.int .i64 e,.bool l] 39))→Rly rd Lv O' w w1→(F w1∧w1.heap[u]?=some (.cells #[.slice go gn gc,.int .i64 e,.bool l] 39)):=fun h r=>L3.rely h (r.less hO)
  walk_nrm
  refine goes_hg (n:=9) (m:=m+1) ?_
  u_c stepG_region_end RL3 hF
  u_c stepG_ret' RL3 hF
  refine Goes.stop (fun w₁ h₁=>?_)
  replace hF:=RL3 hF h₁
  clear h₁
  refine hg_leave3 (x:=u) (fn:=Tryz.f27) (t:=39) RL3 hF (hO _ (Or.inr rfl)) (fun w h=>h.2) rfl rfl Tryz.func27 (fun w1 h1=>?_) (fun w1 h1=>?_) ?_
  ·have c0:=cell_of (o:=0) h1 rfl
   have c1:=cell_of (o:=1) h1 rfl
   have c2:=cell_of (o:=2) h1 rfl
   simp only[Tryz.f27,results]
   go_simp
  ·have c0:=cell_of (o:=0) h1 rfl
   have c1:=cell_of (o:=1) h1 rfl
   have c2:=cell_of (o:=2) h1 rfl
   simp only[Tryz.f27]
   simp[go_sem,results, *]
  ·exact hcont _ hF.1
set_option maxRecDepth 100000 in
set_option maxHeartbeats 4000000 in
theorem run1_told(hLv:∀w d, Lv w→Lv (w.at d))(L:FLoc rd O T F)(hu:¬O u)(hru:¬rd u)(huT:u≠T)
  (hcont:∀w O',(∀b,O b→O' b)→F w→HG Tryz.prog false rd Lv Next m O' (G (fr.finish (.agg #[.slice go gn gc,.int .i64 e,.bool l])) cs) w) (hF:F w∧GotZ u w) :
  HG Tryz.prog false rd Lv (AtAdd rd Lv (CtN rd Lv Next (m+20) T l) (m+20+110) T 0 e) 81 (fun z=>O z∨z=u) (G (((rnFramex Tryz.f27) wv xs T b6 b7 b8 u q k).finish (.agg #[.slice go gn gc,.int .i64 e,.bool l])) (fr::cs)) w:=by
 have L1:=L.more (.cells #[.slice none 0 0,.int .i64 0,.bool false] 39) huT
 unfold rnFramex
 have ed:((rnR1x Tryz.f27)[4]?).bind (·.dst)=some 11:=rfl
 rw[Frame.finish_at,ed]
 have ep:(⟨#[wv,.pointer (some ⟨T,0,none⟩),.pointer (some ⟨b6,0,none⟩),.pointer (some ⟨b7,0,none⟩),.pointer (some ⟨b8,0,none⟩),undef,.pointer (some ⟨u,0,none⟩),.int .i64 q,xs,.int .i64 k,wv,undef,undef],[]⟩:Act).put (some 11) (.agg #[.slice go gn gc,.int .i64 e,.bool l])=⟨#[wv,.pointer (some ⟨T,0,none⟩),.pointer (some ⟨b6,0,none⟩),.pointer (some ⟨b7,0,none⟩),.pointer (some ⟨b8,0,none⟩),undef,.pointer (some ⟨u,0,none⟩),.int .i64 q,xs,.int .i64 k,wv,.agg #[.slice go gn gc,.int .i64 e,.bool l],undef],[]⟩:=by simp[Act.put]
 rw[ep]
 refine hg_call (f:=28) (vs := #[.pointer (some ⟨T,0,none⟩),.agg #[.slice go gn gc,.int .i64 e,.bool l]]) rfl rfl (by decide) rfl Tryz.func28 (by kernel_rfl) (by kernel_rfl) (by go_simp) ?_
 exact count_walk (m:=m+20) hLv L1 hF fun w O' hO' hF'=>run1_end L hu hru huT hO' (fun w hw=>hcont w O' (fun b hb=>hO' b (Or.inl hb)) hw) hF'
end
end
section
open Go.Conc Go.RowKit Go.ConcR.Gen
def WkF(Wg bO bB bM cO cB T b6 b7 b8 s:Nat)(rd:Nat→Prop)(i:Int)(wv:Value)(w:World):Prop:=HdW Wg bO bB bM cO cB T b6 b7 b8 rd w∧w.heap[s]?=some (.cells #[.int .i64 i,wv] 98)
section
variable {Wg bO bB bM cO cB T b6 b7 b8 s:Nat}{rd:Nat→Prop}{Lv:World→Prop}{O:Nat→Prop}{w w1:World}{Stop:(Nat→Prop)→Goroutine→World→Prop}{i q k0:Int}{wv xs:Value}{k:List Item}{cs:List Frame}{F:World→Prop}
theorem wkf_loc(hT:T<bO)(hrO:rd bO)(hrT:¬rd T)(hs:s≠T):FLoc rd (fun x=>noB x∨x=s) T (WkF Wg bO bB bM cO cB T b6 b7 b8 s rd i wv) where
 keep:=fun w w1 hk hz h=>⟨h.1.keep (fun b hb=>hk b (Or.inr hb)) hz,(hk s (Or.inl (Or.inr rfl))).trans h.2⟩
 lt:=fun w h b hb=>by
  rcases hb with(hb|rfl)|hb|rfl
  ·exact hb.elim
  ·exact lt_of_some h.2
  ·exact h.1.lt b hb
  ·exact Nat.lt_trans hT (h.1.lt bO hrO)
 nT:=⟨fun c=>c.elim id fun e=>hs e.symm,hrT⟩
theorem wkT_free {D:Nat→Bool}{g0 g1 g2 h0 h1 h2 v3 v4 v5 v11 v12 v13 v14 v15 v16 v17 v18:Value}(h6:D 6=false)(h7:D 7=false):wkT D cO cB T b6 b7 b8 s i wv g0 g1 g2 v3 v4 v5 v11 v12 v13 v14 v15 v16 v17 v18=wkT D cO cB T b6 b7 b8 s i wv h0 h1 h2 v3 v4 v5 v11 v12 v13 v14 v15 v16 v17 v18:=by
 simp[wkT,h6,h7]
structure WkC(cO cB T b6 b7 b8 s:Nat)(i:Int)(wv:Value)(k:List Item)(fr:Frame):Prop where
 ex:∃(D:Nat→Bool) (l:List Nat) (v3 v4 v5 v11 v12 v13 v14 v15 v16 v17 v18:Value),Val (wkR3x Tryz.f52) (fun x=>D x || decide (x=6)) l∧D 3=true∧D 4=true∧D 5=true∧(D 2=true→D 1=true)∧D 7=false∧D 8=false ∧
  ∀g0 g1 g2,fr=(base 52).at ⟨wkT D cO cB T b6 b7 b8 s i wv g0 g1 g2 v3 v4 v5 v11 v12 v13 v14 v15 v16 v17 v18,[]⟩ (.inRegion (wkR3x Tryz.f52) (6::l)::k)
def StW(rd:Nat→Prop)(F:World→Prop)(wv xs:Value)(cO cB T b6 b7 b8 s:Nat)(i q k0:Int)(k:List Item)(cs:List Frame)(O:Nat→Prop)(O':Nat→Prop)(g:Goroutine)(w:World):Prop:=∃fr,WkC cO cB T b6 b7 b8 s i wv k fr∧StM rd F wv xs T b6 b7 b8 q k0 fr cs O O' g w
set_option maxRecDepth 100000 in
set_option maxHeartbeats 4000000 in
theorem wk_a(L:FLoc rd O T F)(hR:RnF rd F b6 b7 b8 q k0 xs)(hs:O s)(hsF:∀w, F w→w.heap[s]?=some (.cells #[.int .i64 i, wv] 98)){g0 g1 g2 v3 v4 v5 v11 v12 v13 v14 v15 v16 v17 v18:Value} :
  ∀(l:List Nat) (D:Nat→Bool) (w:World),Val (wkR3x Tryz.f52) D l→D 6=false→D 7=false→D 8=false→(D 2=true→D 1=true)→(D 5=true→D 4=true)→F w →
   HG Tryz.prog false rd Lv (StW rd F wv xs cO cB T b6 b7 b8 s i q k0 k cs O) (unD D 9+65) O (G ((base 52).at ⟨wkT D cO cB T b6 b7 b8 s i wv g0 g1 g2 v3 v4 v5 v11 v12 v13 v14 v15 v16 v17 v18,[]⟩ (.inRegion (wkR3x Tryz.f52) l::k)) cs) w:=by
 intro l
 induction l with
 | nil=>
  intro D w hV _ _ h8
  rw[wk_nil hV]at h8
  cases h8
 | cons j l ih=>
  intro D w hV h6 h7 h8 h21 h54 hF
  obtain⟨hj,hD,hV',d2,d5,d6,d7,d8⟩:=wk_dep hV
  rw[unD_step hD 9 hj,Nat.add_right_comm]
  rcases(by omega:j=0∨j=1∨j=2∨j=3∨j=4∨j=5∨j=6∨j=7∨j=8)with rfl|rfl|rfl|rfl|rfl|rfl|rfl|rfl|rfl
  ·refine wk_s0 (ih _ w hV' (by simpa using h6) (by simpa using h7) (by simpa using h8) ?_ ?_ hF)<;>simp<;>assumption
  ·refine wk_s1 (ih _ w hV' (by simpa using h6) (by simpa using h7) (by simpa using h8) ?_ ?_ hF)<;>simp<;>assumption
  ·refine wk_s2 (d2 rfl) hs (cell_of (o:=0) (hsF w hF) rfl) (ih _ w hV' (by simpa using h6) (by simpa using h7) (by simpa using h8) ?_ ?_ hF)<;>simp[d2 rfl]<;>assumption
  ·refine wk_s3 (ih _ w hV' (by simpa using h6) (by simpa using h7) (by simpa using h8) ?_ ?_ hF)<;>simp<;>assumption
  ·refine wk_s4 (ih _ w hV' (by simpa using h6) (by simpa using h7) (by simpa using h8) ?_ ?_ hF)<;>simp<;>assumption
  ·refine wk_s5 (d5 rfl) hs (cell_of (o:=1) (hsF w hF) rfl) (ih _ w hV' (by simpa using h6) (by simpa using h7) (by simpa using h8) ?_ ?_ hF)<;>simp[d5 rfl]<;>assumption
  ·have k3:=(d6 rfl).1
   have k5:=(d6 rfl).2
   have k4:=h54 k5
   have hC:WkC cO cB T b6 b7 b8 s i wv k ((base 52).at ⟨wkT D cO cB T b6 b7 b8 s i wv g0 g1 g2 v3 v4 v5 v11 v12 v13 v14 v15 v16 v17 v18,[]⟩ (.inRegion (wkR3x Tryz.f52) (6::l)::k)):=
    ⟨D,l,v3,v4,v5,v11,v12,v13,v14,v15,v16,v17,v18,hV',k3,k4,k5,h21,h7,h8,fun h0 h1 h2=>by rw[wkT_free (g0:=g0) (g1:=g1) (g2:=g2) (h0:=h0) (h1:=h1) (h2:=h2) h6 h7]⟩
   generalize unD (fun x=>D x || decide (x=6)) 9=u
   rw[show u+65+1=61+(u+5) by omega]
   refine hg_up (u+5) (n:=61) ?_
   have hx3:(wkT D cO cB T b6 b7 b8 s i wv g0 g1 g2 v3 v4 v5 v11 v12 v13 v14 v15 v16 v17 v18).getD 14 undef=fnV T b6 b7 b8:=by simp[wkT,k3]
   have hx5:(wkT D cO cB T b6 b7 b8 s i wv g0 g1 g2 v3 v4 v5 v11 v12 v13 v14 v15 v16 v17 v18).getD 16 undef=wv:=by simp[wkT,k5]
   generalize wkT D cO cB T b6 b7 b8 s i wv g0 g1 g2 v3 v4 v5 v11 v12 v13 v14 v15 v16 v17 v18=X at hx3 hx5 hC ⊢
   have hx3':X[14]?.getD undef=fnV T b6 b7 b8:=by rw[←hx3,Array.getD_eq_getD_getElem?]
   have hx5':X[16]?.getD undef=wv:=by rw[←hx5,Array.getD_eq_getD_getElem?]
   refine hg_enter (f:=27) (args := #[wv,.pointer (some ⟨T,0,none⟩),.pointer (some ⟨b6,0,none⟩),.pointer (some ⟨b7,0,none⟩),.pointer (some ⟨b8,0,none⟩)]) rfl rfl (by decide) (fun w1=>?_) (fun w1=>?_) ?_
   ·simp only[wkR3x,wkRestx,wkLoopx,Tryz.f52]
    have hb:=enters_run1 #[wv,.pointer (some ⟨T,0,none⟩),.pointer (some ⟨b6,0,none⟩),.pointer (some ⟨b7,0,none⟩),.pointer (some ⟨b8,0,none⟩)] w1
    clear hC
    unfold fnV at *
    go_simp
   ·simp only[wkR3x,wkRestx,wkLoopx,Tryz.f52]
    have hb:=events_run1 #[wv,.pointer (some ⟨T,0,none⟩),.pointer (some ⟨b6,0,none⟩),.pointer (some ⟨b7,0,none⟩),.pointer (some ⟨b8,0,none⟩)] w1 #[]
    clear hC
    unfold fnV at *
    simp[go_sem, *]
   ·exact(run1_walk L hR hF).mono fun O' g w h=>⟨_,hC,h⟩
  ·rw[(d7 rfl).2]at h6
   cases h6
  ·rw[(d8 rfl).2.2]at h6
   cases h6
end
end
section
open Go.Conc Go.RowKit Go.ConcR.Gen
section
variable {Wg bO bB bM cO cB T b6 b7 b8 s:Nat}{rd:Nat→Prop}{Lv:World→Prop}{O:Nat→Prop}{w w1:World}{Stop:(Nat→Prop)→Goroutine→World→Prop}{i q k0:Int}{wv xs:Value}{k:List Item}{cs:List Frame}{F:World→Prop}{g0 g1 g2 v3 v4 v5 v11 v12 v13 v14 v15 v16 v17 v18:Value}
def SndF(F:World→Prop)(cO cB T b6 b7 b8 s:Nat)(i:Int)(wv g0 g1 g2:Value)(k:List Item)(cs:List Frame)(_:Nat→Prop)(g:Goroutine)(w:World):Prop:=
 F w∧∃(D:Nat→Bool) (v3 v4 v5 v11 v12 v13 v14 v15 v16 v17 v18:Value),D 0=true∧D 7=true∧g=G ((base 52).at ⟨wkT D cO cB T b6 b7 b8 s i wv g0 g1 g2 v3 v4 v5 v11 v12 v13 v14 v15 v16 v17 v18,[]⟩ (.inRegion (wkR3x Tryz.f52) [8]::k)) cs
theorem wk_b {O1:Nat→Prop}(L:FLoc rd O1 T F)(hO1:∀b, O1 b→O b)(hs:O1 s)(hsF:∀w, F w→w.heap[s]?=some (.cells #[.int .i64 i, wv] 98)) :
  ∀(l:List Nat) (D:Nat→Bool) (w:World),Val (wkR3x Tryz.f52) D l→D 3=true→D 4=true→D 5=true→D 6=true→D 8=false→(D 2=true→D 1=true)→(D 7=true→D 2=true)→F w →
   HG Tryz.prog false rd Lv (SndF F cO cB T b6 b7 b8 s i wv g0 g1 g2 k cs) (unD D 9) O (G ((base 52).at ⟨wkT D cO cB T b6 b7 b8 s i wv g0 g1 g2 v3 v4 v5 v11 v12 v13 v14 v15 v16 v17 v18,[]⟩ (.inRegion (wkR3x Tryz.f52) l::k)) cs) w:=by
 intro l
 induction l with
 | nil=>
  intro D w hV _ _ _ _ h8
  rw[wk_nil hV]at h8
  cases h8
 | cons j l ih=>
  intro D w hV h3 h4 h5 h6 h8 h21 h72 hF
  obtain⟨hj,hD,hV',d2,d5,d6,d7,d8⟩:=wk_dep hV
  rw[unD_step hD 9 hj]
  rcases(by omega:j=0∨j=1∨j=2∨j=3∨j=4∨j=5∨j=6∨j=7∨j=8)with rfl|rfl|rfl|rfl|rfl|rfl|rfl|rfl|rfl
  ·refine wk_s0 (ih _ w hV' (by simpa using h3) (by simpa using h4) (by simpa using h5) (by simpa using h6) (by simpa using h8) ?_ ?_ hF)<;>simp<;>assumption
  ·refine wk_s1 (ih _ w hV' (by simpa using h3) (by simpa using h4) (by simpa using h5) (by simpa using h6) (by simpa using h8) ?_ ?_ hF)<;>simp<;>assumption
  ·refine wk_s2 (d2 rfl) (hO1 s hs) (cell_of (o:=0) (hsF w hF) rfl) (ih _ w hV' (by simpa using h3) (by simpa using h4) (by simpa using h5) (by simpa using h6) (by simpa using h8) ?_ ?_ hF)<;>simp[d2 rfl]<;>assumption
  ·rw[h3]at hD
   cases hD
  ·rw[h4]at hD
   cases hD
  ·rw[h5]at hD
   cases hD
  ·rw[h6]at hD
   cases hD
  ·refine wk_s7 (d7 rfl).1 h6 (ih _ w hV' (by simpa using h3) (by simpa using h4) (by simpa using h5) (by simpa using h6) (by simpa using h8) ?_ ?_ hF)<;>simp[(d7 rfl).1]<;>exact h21 (d7 rfl).1
  ·have k0:=(d8 rfl).1
   have k7:=(d8 rfl).2.1
   have k2:=h72 k7
   have k1:=h21 k2
   have hl:l=[]:=by
    cases l with
    | nil=>rfl
    | cons j2 l2=>
     obtain⟨hj2,hD2,_⟩:=wk_dep hV'
     rcases(by omega:j2=0∨j2=1∨j2=2∨j2=3∨j2=4∨j2=5∨j2=6∨j2=7∨j2=8)with rfl|rfl|rfl|rfl|rfl|rfl|rfl|rfl|rfl<;>simp[*]at hD2
   subst hl
   refine HG.stop fun w1 h1=>⟨L.rely hF (h1.less hO1),D,v3,v4,v5,v11,v12,v13,v14,v15,v16,v17,v18,k0,k7,rfl⟩
set_option maxRecDepth 100000 in
set_option maxHeartbeats 4000000 in
theorem wk_send {D:Nat→Bool}(h0:D 0=true)(h7:D 7=true)(w:World):stepG Tryz.prog false (G ((base 52).at ⟨wkT D cO cB T b6 b7 b8 s i wv g0 g1 g2 v3 v4 v5 v11 v12 v13 v14 v15 v16 v17 v18,[]⟩ (.inRegion (wkR3x Tryz.f52) [8]::k)) cs) w = .comm (G ((base 52).at ⟨wkT D cO cB T b6 b7 b8 s i wv g0 g1 g2 v3 v4 v5 v11 v12 v13 v14 v15 v16 v17 v18,[]⟩ (.inRegion (wkR3x Tryz.f52) [8]::k)) cs) #[scase cB (.agg #[.int .i64 i,g0,g1,g2]) undef] true .send w #[]:=by
 have hx0:(wkT D cO cB T b6 b7 b8 s i wv g0 g1 g2 v3 v4 v5 v11 v12 v13 v14 v15 v16 v17 v18).getD 11 undef = .chan (some cB):=by simp[wkT,h0]
 have hx7:(wkT D cO cB T b6 b7 b8 s i wv g0 g1 g2 v3 v4 v5 v11 v12 v13 v14 v15 v16 v17 v18).getD 18 undef = .agg #[.int .i64 i,g0,g1,g2]:=by simp[wkT,h7]
 generalize wkT D cO cB T b6 b7 b8 s i wv g0 g1 g2 v3 v4 v5 v11 v12 v13 v14 v15 v16 v17 v18=X at hx0 hx7 ⊢
 have hx0':X[11]?.getD undef = .chan (some cB):=by rw[←hx0,Array.getD_eq_getD_getElem?]
 have hx7':X[18]?.getD undef = .agg #[.int .i64 i,g0,g1,g2]:=by rw[←hx7,Array.getD_eq_getD_getElem?]
 simp only[wkR3x,wkRestx,wkLoopx,Tryz.f52]
 have e:∀(g:Goroutine) (E E':Array Event),E = #[]→stepG Tryz.prog false g w=GStep.comm g #[scase cB (.agg #[.int .i64 i,g0,g1,g2]) undef] true .send w E→stepG Tryz.prog false g w=GStep.comm g #[scase cB (.agg #[.int .i64 i,g0,g1,g2]) undef] true .send w #[]:=fun g E E' h h'=>by rw[h',h]
 refine e _ _ #[] ?_ (stepG_comm (cases := #[scase cB (.agg #[.int .i64 i,g0,g1,g2]) undef]) (blocking:=true) (shape:= .send) (w':=w) rfl rfl (by decide) (by go_simp;rfl))
 unfold listed
 have h0:∀E:Array Event,E = #[]→seen Tryz.prog 52 E = #[]:=fun E h=>by rw[h,seen_none]
 refine h0 _ ?_
 simp[go_sem, *]
set_option maxRecDepth 100000 in
set_option maxHeartbeats 4000000 in
theorem wk_sent(hF:HdW Wg bO bB bM cO cB T b6 b7 b8 rd w){D:Nat→Bool}(hc:cs=[(hdFramex Tryz.f50) Wg bO bB bM cO cB T b6 b7 b8, (hdBotx Tryz.prog)]) :
  HG Tryz.prog false rd Lv (StRcv Wg bO bB bM cO cB T b6 b7 b8) 40 noB (G (((base 52).at ⟨wkT D cO cB T b6 b7 b8 s i wv g0 g1 g2 v3 v4 v5 v11 v12 v13 v14 v15 v16 v17 v18,[]⟩ (.inRegion (wkR3x Tryz.f52) [8]::[.inBlock 1,.inLoop (wkLoopx Tryz.f52),.inBlock 0])).finish undef) cs) w:=by
 subst hc
 have hX:∃v6 v8 v9 v10 v11' v12' v13' v14' v15' v16' v17' v18',wkT D cO cB T b6 b7 b8 s i wv g0 g1 g2 v3 v4 v5 v11 v12 v13 v14 v15 v16 v17 v18 = #[.chan (some cO),.chan (some cB),fnV T b6 b7 b8,v3,v4,v5,v6,.chan (some cO),v8,v9,v10,v11',v12',v13',v14',v15',v16',v17',v18']:=⟨_,_,_,_,_,_,_,_,_,_,_,_,rfl⟩
 obtain⟨v6,v8,v9,v10,v11',v12',v13',v14',v15',v16',v17',v18',hX⟩:=hX
 rw[hX]
 clear hX
 have ed:((wkR3x Tryz.f52)[8]?).bind (·.dst)=none:=rfl
 rw[Frame.finish_at,ed]
 have hS:∀(w:World) (v7:Value),v7 = .chan (some cO)→StRcv Wg bO bB bM cO cB T b6 b7 b8 noB (G ((base 52).at ⟨#[.chan (some cO),.chan (some cB),fnV T b6 b7 b8,v3,v4,v5,v6,v7,v8,v9,v10,v11',v12',v13',v14',v15',v16',v17',v18'],[]⟩ (rcvTodox Tryz.f52)) [(hdFramex Tryz.f50) Wg bO bB bM cO cB T b6 b7 b8,(hdBotx Tryz.prog)]) w:=fun w v7 e=>by
  subst e
  exact⟨rfl,rfl,⟨_,_,_,_,_,_,_,_,_,_,_,_,_,_,_,rfl⟩,rfl⟩
 generalize StRcv Wg bO bB bM cO cB T b6 b7 b8=Stop at hS ⊢
 simp only[rcvTodox,wkR1x,wkR3x,wkRestx,wkLoopx,Tryz.f52]at hS ⊢
 walk_nrm
 refine goes_hg (n:=40) (m:=0) ?_
 u_c stepG_region_end HdW.rely hF
 u_c stepG_inBlock HdW.rely hF
 u_c stepG_inLoop HdW.rely hF
 u_c stepG_seq HdW.rely hF
 u_reg HdW.rely hF
 refine Goes.stop (fun w₁ h₁=>?_)
 refine HG.stop (fun w2 h2=>?_)
 exact hS w2 _ rfl
end
end
section
open Go.Conc Go.RowKit Go.ConcR.Gen
def tvF(i:Nat)(v:Value):Value:=match v with
 |.agg ⟨[a,b,c]⟩=> .agg #[.int .i64 i,a,b,c]
 | v=> .agg #[.int .i64 i,v]
def MvF(v:Value)(b:Nat):Prop:=∃a gn gc x y,v = .agg #[.slice (some a) gn gc,x,y]∧b=a.block
theorem tvF_cases(i:Nat)(v:Value):(∃a b c,v = .agg #[a,b,c]∧tvF i v = .agg #[.int .i64 i,a,b,c])∨tvF i v = .agg #[.int .i64 i,v]:=by
 unfold tvF
 split
 ·exact Or.inl ⟨_,_,_,rfl,rfl⟩
 ·exact Or.inr rfl
theorem tvF_inj(i:Nat)(v:Value)(i':Nat)(v':Value)(h:tvF i v=tvF i' v'):i=i'∧v=v':=by
 rcases tvF_cases i v with⟨a,b,c,rfl,e⟩|e<;>rcases tvF_cases i' v' with⟨a',b',c',rfl,e'⟩|e'<;>rw[e,e']at h<;>simp at h
 ·obtain⟨h1,h2,h3,h4⟩:=h
  exact⟨by omega,by rw[h2,h3,h4]⟩
 ·exact⟨by omega,h.2⟩
structure LnP where
 cO:Nat
 cB:Nat
 Wg:Nat
 T:Nat
 bO:Nat
 bB:Nat
 bM:Nat
 b6:Nat
 b7:Nat
 b8:Nat
 q:Int
 k:Int
 xs:Value
 wo:Nat→Option Addr
 wn:Nat→Nat
 wc:Nat→Nat
 N:Nat
 H:Nat
 nb:Nat
 p0:Nat
 er:Nat→Nat
 ls:Nat→Bool
 GM:Nat→Value→World→Prop
 rd:Nat→Prop
 w0:World
 Qm:Nat→Nat→Prop
 F:Fx
 et:TypeId
 zB:Value
 Sel:Nat→(Nat→Prop)→Frame→List Frame→Prop
 Rng:(Nat→Prop)→Frame→List Frame→Prop
 Got:(Nat→Option Value)→(Nat→Prop)→World→Prop
 Anc:(Nat→Option Value)→(Nat→Prop)→Goroutine→World→Prop
 Fin:(Nat→Option Value)→(Nat→Prop)→Goroutine→World→Prop
abbrev LnP.Kx(p:LnP)(P:Program):Cfg where
 P:=P
 ty:=wgLink.tWg
 cO:=p.cO
 cB:=p.cB
 Wg:=p.Wg
 T:=p.T
 tT:=62
 zO:=zSent
 zB:=p.zB
 zS:=undef
 zT:=zSent
 N:=p.N
 H:=p.H
 nb:=p.nb
 sv:=fun i=> .agg #[.int .i64 i,.slice (p.wo i) (p.wn i) (p.wc i)]
 er:=p.er
 ls:=p.ls
 tv:=tvF
 GM:=p.GM
 Mv:=MvF
 rd:=p.rd
 w0:=p.w0
 mf:=29
 ma:=fun i => #[.int .i64 p.q,p.xs,.int .i64 p.k,.slice (p.wo i) (p.wn i) (p.wc i)]
 Qm:=p.Qm
 F:=p.F
 Rcv:=RcvF p.Wg p.bO p.bB p.bM p.cO p.cB p.T p.b6 p.b7 p.b8
 Sel:=p.Sel
 Rng:=p.Rng
 Got:=p.Got
 Anc:=p.Anc
 Fin:=p.Fin
 et:=p.et
 C1:=p.bO
 C2:=p.bB
 v1:= .chan (some p.cO)
 v2:= .chan (some p.cB)
 p0:=p.p0
structure LnP.Ok(p:LnP)(tM:TypeId):Prop where
 hd:HdW p.Wg p.bO p.bB p.bM p.cO p.cB p.T p.b6 p.b7 p.b8 p.rd p.w0
 rn:RnF p.rd (Rdx (p.Kx Tryz.prog)) p.b6 p.b7 p.b8 p.q p.k p.xs
 T:p.T<p.bO
 rdT:¬p.rd p.T
 er:∀i,p.er i≤1000
 tM1:tM≠62
 tM2:tM≠98
 tM3:tM≠39
 gm:∀i v w w1,(∀b,MvF v b→w1.heap[b]?=w.heap[b]?)→p.GM i v w→p.GM i v w1
 gmv:∀i v w,p.GM i v w→∃go gn gc,v = .agg #[.slice go gn gc,.int .i64 (p.er i),.bool (p.ls i)]
 gmb:∀i v w b,p.GM i v w→MvF v b→∃c,w.heap[b]?=some (.cells c tM)
section
variable {p:LnP}{tM:TypeId}{w w1:World}
theorem LnP.Ok.hdw(h:p.Ok tM)(hr:Rdx (p.Kx Tryz.prog) w):HdW p.Wg p.bO p.bB p.bM p.cO p.cB p.T p.b6 p.b7 p.b8 p.rd w:=by
 have e:∀b,p.rd b→w.heap[b]?=p.w0.heap[b]?:=hr
 refine⟨(cell_sam0 (e _ h.hd.rO) 0).trans h.hd.cO,(cell_sam0 (e _ h.hd.rB) 0).trans h.hd.cB,(cell_sam0 (e _ h.hd.rM) 0).trans h.hd.cM,h.hd.rO,h.hd.rB,h.hd.rM,fun b hb=>?_⟩
 have h1:=h.hd.lt b hb
 have:w.heap[b]?=some p.w0.heap[b]:=(e b hb).trans (Array.getElem?_eq_getElem h1)
 exact lt_of_some this
theorem lvx_at(w:World)(d:Nat)(h:Lvx (p.Kx Tryz.prog) w):Lvx (p.Kx Tryz.prog) (w.at d):=h
end
end
section
open Go.Conc Go.RowKit Go.ConcR.Gen
def wkKx(f:Func):List Item:=[.inBlock 1,.inLoop (wkLoopx f),.inBlock 0]
def LnP.hdfx(p:LnP)(f:Func):Frame:=hdFramex f p.Wg p.bO p.bB p.bM p.cO p.cB p.T p.b6 p.b7 p.b8
def LnP.wkf(p:LnP)(s i:Nat):World→Prop:=WkF p.Wg p.bO p.bB p.bM p.cO p.cB p.T p.b6 p.b7 p.b8 s p.rd i (.slice (p.wo i) (p.wn i) (p.wc i))
def LnP.snd(p:LnP)(s i:Nat)(g0 g1 g2:Value):(Nat→Prop)→Goroutine→World→Prop:=SndF (p.wkf s i) p.cO p.cB p.T p.b6 p.b7 p.b8 s i (.slice (p.wo i) (p.wn i) (p.wc i)) g0 g1 g2 (wkKx Tryz.f52) [(p.hdfx Tryz.f50),(hdBotx Tryz.prog)]
section
variable {p:LnP}{tM:TypeId}{w w1 wt:World}{s i m:Nat}{go:Option Addr}{gn gc:Nat}{Oc B:Nat→Prop}{g:Goroutine}
def LnP.val(p:LnP)(i:Nat)(go:Option Addr)(gn gc:Nat):Value:= .agg #[.slice go gn gc,.int .i64 (p.er i),.bool (p.ls i)]
theorem snd_of(h:p.Ok tM)(hg:p.GM i (p.val i go gn gc) wt)(hM:∀b, MvF (p.val i go gn gc) b→Oc b)
  (hL:LftZ Oc (MvF (p.val i go gn gc)) (fun b=>wt.heap[b]?) (p.snd s i (.slice go gn gc) (.int .i64 (p.er i)) (.bool (p.ls i))) B g w):AtSnd (p.Kx Tryz.prog) i (p.val i go gn gc) B g w:=by
 obtain⟨A,⟨hF,D,v3,v4,v5,v11,v12,v13,v14,v15,v16,v17,v18,h0,h7,rfl⟩,hA,hO,hZ⟩:=hL
 refine⟨_,_,rfl,h.gm _ _ _ _ (fun b hb=>(hZ b hb).2) hg,fun b hb=>hO b (hM b hb),fun w1=>wk_send h0 h7 w1,fun w1 hlv hrd=>⟨40,?_⟩⟩
 exact(wk_sent (h.hdw hrd) rfl).mono fun O g w h=>h
theorem mv_T(h:p.Ok tM){v:Value}{b:Nat}{c:Array Value}(hg:p.GM i v wt)(hb:MvF v b)(hs:w.heap[b]?=wt.heap[b]?)(hT:w.heap[p.T]?=some (.cells c 62)):b≠p.T:=by
 rintro rfl
 obtain⟨c',hc'⟩:=h.gmb i v wt _ hg hb
 rw[hs,hc']at hT
 injection hT with hT
 injection hT with h1 h2
 exact h.tM1 h2
theorem wrap_add {x d:Int}(h0:0≤x)(h1:x<1000000)(h2:0≤d)(h3:d≤1000):IntKind.i64.wrap (x+d)=x+d:=by
 simp only[IntKind.wrap,go_sem]
 simp
 omega
theorem ad2_of(h:p.Ok tM)(hg:p.GM i (p.val i go gn gc) wt)(hM:∀b, MvF (p.val i go gn gc) b→Oc b)
  (hL:LftZ Oc (MvF (p.val i go gn gc)) (fun b=>wt.heap[b]?) (AtAdd p.rd (Lvx (p.Kx Tryz.prog)) (p.snd s i (.slice go gn gc) (.int .i64 (p.er i)) (.bool (p.ls i))) m p.T 1 1) B g w):AtAd2 (p.Kx Tryz.prog) i (p.val i go gn gc) B g w:=by
 obtain⟨A,⟨hs,hst⟩,hA,hO,hZ⟩:=hL
 refine⟨hs,fun x y hT h0 h1=>?_⟩
 have hT:w.heap[p.T]?=some (.cells #[.int .i64 x,.int .i64 y] 62):=hT
 obtain⟨g',e1,e2⟩:=hst y (cell_of (o:=1) hT rfl) (thaw_of hT 1)
 rw[wrap_add h0 h1 (by decide) (by decide)]at e1 e2
 refine⟨g',e1,m,?_⟩
 have hl:=e2.lift (O':=B) (Oc:=Oc) (Z:=MvF (p.val i go gn gc)) (c:=fun b=>wt.heap[b]?) hA hO fun b hb=>?_
 ·exact hl.mono fun B g w hL=>snd_of h hg hM hL
 ·have hne:=mv_T h hg hb (hZ b hb).2 hT
  obtain⟨c,hc⟩:=h.gmb _ _ _ _ hg hb
  have e:(w.setCell ⟨p.T,1,none⟩ (.int .i64 (y+1))).heap[b]?=wt.heap[b]?:=by
   rw[heap_setCell,if_neg hne]
   exact(hZ b hb).2
  exact⟨hO b (hM b hb),(hZ b hb).1,lt_of_some (e.trans hc),e⟩
theorem ad1_of(h:p.Ok tM)(hg:p.GM i (p.val i go gn gc) wt)(hM:∀b, MvF (p.val i go gn gc) b→Oc b){m':Nat}
  (hL:LftZ Oc (MvF (p.val i go gn gc)) (fun b=>wt.heap[b]?) (AtAdd p.rd (Lvx (p.Kx Tryz.prog)) (CtN p.rd (Lvx (p.Kx Tryz.prog)) (p.snd s i (.slice go gn gc) (.int .i64 (p.er i)) (.bool (p.ls i))) m p.T (p.ls i)) m' p.T 0 (p.er i)) B g w):AtAd1 (p.Kx Tryz.prog) i (p.val i go gn gc) B g w:=by
 obtain⟨A,⟨hs,hst⟩,hA,hO,hZ⟩:=hL
 refine⟨hs,fun x y hT h0 h1=>?_⟩
 have hT:w.heap[p.T]?=some (.cells #[.int .i64 x,.int .i64 y] 62):=hT
 obtain⟨g',e1,e2⟩:=hst x (cell_of (o:=0) hT rfl) (thaw_of hT 0)
 have:=h.er i
 rw[wrap_add h0 h1 (by omega) (by omega)]at e1 e2
 have hz:∀b,MvF (p.val i go gn gc) b→B b∧¬A b∧b<(w.setCell ⟨p.T,0,none⟩ (.int .i64 (x+p.er i))).heap.size∧(w.setCell ⟨p.T,0,none⟩ (.int .i64 (x+p.er i))).heap[b]?=wt.heap[b]?:=fun b hb=>by
  have hne:=mv_T h hg hb (hZ b hb).2 hT
  obtain⟨c,hc⟩:=h.gmb _ _ _ _ hg hb
  have e:(w.setCell ⟨p.T,0,none⟩ (.int .i64 (x+p.er i))).heap[b]?=wt.heap[b]?:=by
   rw[heap_setCell,if_neg hne]
   exact(hZ b hb).2
  exact⟨hO b (hM b hb),(hZ b hb).1,lt_of_some (e.trans hc),e⟩
 have hl:=e2.lift (O':=B) (Oc:=Oc) (Z:=MvF (p.val i go gn gc)) (c:=fun b=>wt.heap[b]?) hA hO hz
 refine⟨g',e1,fun hls=>⟨m',hl.mono fun B g w hL=>ad2_of (s:=s) (m:=m+80) h hg hM ?_⟩,fun hls=>⟨m',hl.mono fun B g w hL=>snd_of (s:=s) h hg hM ?_⟩⟩
 ·have hls:p.ls i=true:=hls
  have e:CtN p.rd (Lvx (p.Kx Tryz.prog)) (p.snd s i (.slice go gn gc) (.int .i64 (p.er i)) (.bool (p.ls i))) m p.T (p.ls i)=AtAdd p.rd (Lvx (p.Kx Tryz.prog)) (p.snd s i (.slice go gn gc) (.int .i64 (p.er i)) (.bool (p.ls i))) (m+80) p.T 1 1:=if_pos hls
  rw[e]at hL
  exact hL
 ·have hls:p.ls i=false:=hls
  have e:CtN p.rd (Lvx (p.Kx Tryz.prog)) (p.snd s i (.slice go gn gc) (.int .i64 (p.er i)) (.bool (p.ls i))) m p.T (p.ls i)=p.snd s i (.slice go gn gc) (.int .i64 (p.er i)) (.bool (p.ls i)):=if_neg (by rw[hls];exact Bool.false_ne_true)
  rw[e]at hL
  exact hL
end
end
end Go.Proofs.YtedifobeggabnaaGreat
