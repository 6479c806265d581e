/- Texts of ours, one behind the other: KT30 KT31. -/
import Derived.Test.YtppggchhkckobaaGreatZKT28
import Derived.Test.YtppggchhkckobaaGreatZKT18
import Derived.Test.YtppggchhkckobaaGreatZKT25
import Derived.Test.YtppggchhkckobaaGreatZKT8
namespace Go.Proofs.YtppggchhkckobaaGreat
open Go.RowKit Go.Sort
theorem copy_cut {ops : Array Oper} {rest : List Oper} {o : Oper} {a : Act} {w : World} {Q : Exit → Act → World → Prop} (hgd : o.guard = none) (d s : Operand)
   (ho : o.op = .call { callee := .builtin .copy,args := #[d,s],argTypes := #[22,22] }) (g N off L dc n sc : Nat) (ao : Option Addr)
   (hd : a.eval d = .slice (some ⟨g,off,none⟩) L dc) (hs : a.eval s = .slice ao n sc) (c x : Nat → Nat) (hrow : Row g N c w) (hS : Sl ao n x w) (hL : off + L ≤ N)
   (B : Nat) (w0 : World) (hb : Below B w0 w) (hBg : B ≤ g)
   (h : ∀ w',Row g N (fun k => if off ≤ k ∧ k < off + min L n then x (k - off) else c k) w' → Below B w0 w' → wpList Tryz.prog ops Q rest (a.put o.dst (goInt ((min L n : Nat) : Int))) w') : wpList Tryz.prog ops Q (o :: rest) a w := by
 obtain ⟨cap,f,hf,hN,he⟩ := hrow
 obtain ⟨cs,h1,h2,h3⟩ := hf
 obtain ⟨i0,hi,hz0,hz1,hz2⟩ := info_parts Tryz.infoInt
 have hh : w.heap[g]? = some (.cells cs.toList.toArray 3 (0,0)) := by simpa using h1
 obtain ⟨p,hp⟩ : ∃ p,p = min L n := ⟨_,rfl⟩
 have hpL : p ≤ L := by rw [hp]; exact Nat.min_le_left _ _
 have hpn : p ≤ n := by rw [hp]; exact Nat.min_le_right _ _
 rw [← hp] at h
 refine wpList_copy_splice hgd d s 22 22 ho 3 Tryz.underlying22 (by rw [hi]; simp [hz1]) _ _ L dc n sc hd hs g off cs.toList 3 hh (celL p x) (by rw [celL_len,hp]; exact Nat.min_comm _ _) ?_ (by rw [celL_len]; simp; omega) (celL_one p x) B w0 hb hBg ?_
 · intro h0
   rw [celL_len] at h0
   obtain ⟨b,off',rfl,_⟩ := hS 0 (by omega)
   refine ⟨rfl,_,rfl,fun j v hj => ?_⟩
   have hj' : j < p := by
     have := (List.getElem?_eq_some_iff.1 hj).1
     rwa [celL_len] at this
   rw [celL_get p x j hj'] at hj
   cases hj
   obtain ⟨b',off'',e,hc⟩ := hS j (by omega)
   cases e
   rw [add_off]; exact hc
 · intro w' hg' hb'
   rw [celL_len]
   refine h w' ?_ hb'
   have hlen : (splice cs.toList off (celL p x)).length = cap := by rw [length_splice _ _ _ (by rw [celL_len]; simp; omega)]; simpa using h2
   refine ⟨cap,fun k => if off ≤ k ∧ k < off + p then .int .i64 (x (k - off) : Nat) else f k,⟨(splice cs.toList off (celL p x)).toArray,hg'.out,by simpa using hlen,fun k hk => ?_⟩,hN,fun k hk => ?_⟩
   · show _ = some (if off ≤ k ∧ k < off + p then _ else f k)
     have hcl : cs.toList.length = cap := by simpa using h2
     unfold splice
     rw [List.getElem?_toArray,celL_len]
     have htl : (cs.toList.take off).length = off := by rw [List.length_take,hcl]; omega
     by_cases e1 : k < off
     · rw [List.getElem?_append_left (by omega),List.getElem?_take_of_lt e1,if_neg (by omega),Array.getElem?_toList,h3 k hk]
     · rw [List.getElem?_append_right (by omega),htl]
       by_cases e : k < off + p
       · rw [List.getElem?_append_left (by rw [celL_len]; omega),celL_get p x (k - off) (by omega),if_pos ⟨by omega,e⟩]
       · rw [List.getElem?_append_right (by rw [celL_len]; omega),celL_len,List.getElem?_drop,show off + p + (k - off - p) = k from by omega,Array.getElem?_toList,h3 k hk,if_neg (by omega)]
   · show (if off ≤ k ∧ k < off + p then _ else f k) = .int .i64 ((if off ≤ k ∧ k < off + p then x (k - off) else c k : Nat) : Int)
     by_cases e : off ≤ k ∧ k < off + p
     · rw [if_pos e,if_pos e]
     · rw [if_neg e,if_neg e]; exact he k hk
theorem of_divQ {D : FD} (hD : D ∈ fieldsL) {g : Nat → Nat} {l n : Nat} (bg : Bd (l + 1) g)
   (h : divR D g l (D.iv (g l)) (n + 1 - l) (whl D n) = pnil) : ∃ K Q,K + (l + 1) = n + 1 ∧ El D Q ∧ Bd (K + 1) Q ∧ Q K ≠ 0 ∧ pmul D (K + 1) Q g = whl D n ∧ dgn (divQ D g l (D.iv (g l)) (n + 1 - l) (whl D n)) (n + 1 - l) = K + 1 := by
 obtain ⟨K,Q,h1,h2,h3,h4,h5⟩ := of_div hD bg h
 refine ⟨K,Q,h1,h2,h3,h4,h5, ?_⟩
 have F := fld hD
 have e : n + 1 - l = K + 1 := by omega
 rw [e] at h ⊢
 have hd := div_is F (b := g) (l := l) (inv := D.iv (g l)) (K + 1) (whl_el F n)
 rw [h,padd_nil F (el_mul F _ _ _)] at hd
 refine dgn_self (fun _ => ?_)
 rw [Nat.add_sub_cancel]
 intro h0
 have q1 := congrFun hd (K + l)
 rw [pmul_top F bg,h0,F.mul_comm,mul0 F,show K + l = n by omega] at q1
 unfold whl at q1
 rw [if_pos rfl] at q1
 omega
def ToldM (S q : Int) (nn base : Nat) (K : Nat → (Nat → Nat → Nat) → Prop) (qa na : Int) (o : Option Addr) (k c : Nat) (w : World) : Prop := (S = 0 → qa = q ∧ na = ((nn + 1 : Nat) : Int) ∧ k ≤ 64 ∧ ∃ R,MV base (.slice o k c) k (nn + 1) R w ∧ K k R) ∧ (S ≠ 0 → qa = 0 ∧ na = 0 ∧ o = none ∧ k = 0 ∧ c = 0)
theorem ToldM.told {S q : Int} {nn base : Nat} {K : Nat → (Nat → Nat → Nat) → Prop} {qa na : Int} {o : Option Addr} {k c : Nat} {w : World} (h : ToldM S q nn base K qa na o k c w) : ToldP S q nn K qa na o k c w := ⟨fun e => by
 obtain ⟨h1,h2,h3,R,h4,h5⟩ := h.1 e
 exact ⟨h1,h2,h3,R,h4.rl,h5⟩,h.2⟩
theorem ToldM.mono {S q : Int} {nn base base' : Nat} {K : Nat → (Nat → Nat → Nat) → Prop} {qa na : Int} {o : Option Addr} {k c : Nat} {w : World} (h : ToldM S q nn base K qa na o k c w) (hb : base' ≤ base) : ToldM S q nn base' K qa na o k c w := ⟨fun e => by
 obtain ⟨h1,h2,h3,R,h4,h5⟩ := h.1 e
 exact ⟨h1,h2,h3,R,h4.mono hb,h5⟩,h.2⟩
theorem ToldM.laid {S q : Int} {nn base b : Nat} {K : Nat → (Nat → Nat → Nat) → Prop} {qa na : Int} {o : Option Addr} {k c : Nat} {w : World} (h : ToldM S q nn base K qa na o k c w) (hb : b < base) (x y : Int) (u : Value) : ToldM S q nn base K qa na o k c (Go.Proofs.YtppggchhkckobaaGreat.laid w b x y u) := ⟨fun e => by
 obtain ⟨h1,h2,h3,R,h4,h5⟩ := h.1 e
 exact ⟨h1,h2,h3,R,laid_mv h4 hb x y u,h5⟩,h.2⟩
theorem ToldM.err {S q : Int} (nn base : Nat) (K : Nat → (Nat → Nat → Nat) → Prop) (w : World) (h : S ≠ 0) : ToldM S q nn base K 0 0 none 0 0 w := ⟨fun e => absurd e h,fun _ => ⟨rfl,rfl,rfl,rfl,rfl⟩⟩
set_option maxHeartbeats 4000000 in
set_option maxRecDepth 100000 in
theorem pof_e1 {q n e : Int} {go : Option Addr} {m cg : Nat} {w : World} (h0 : e ≠ 0)
   (hC : ∀ wx,Below w.heap.size w wx → Calls Tryz.prog 54 #[.int .i64 q, .slice go m cg] wx fun x w' => x = .returned (.int .i64 e) ∧ Below wx.heap.size wx w') :
   Calls Tryz.prog 16 #[.int .i64 q, .int .i64 n, .slice go m cg] w (CEr e w) := by
 obtain ⟨w0,hw0⟩ : ∃ w0,w0 = w.alloc (.cells #[.int .i64 0, .int .i64 0, .slice none 0 0] 35) := ⟨_,rfl⟩
 have HW : Hid (Below w.heap.size w w0 ∧ RB w.heap.size w0) := by
   rw [hw0]; exact ⟨(Below.refl _ _).alloc (Nat.le_refl _) _,RB.new _ _ _ _⟩
 have HC : Hid (Calls Tryz.prog 54 #[.int .i64 q, .slice go m cg] w0 fun x w' => x = .returned (.int .i64 e) ∧ Below w0.heap.size w0 w') := hC w0 HW.out.1
 have hne : (e != 0) = true := by rw [bne_iff_ne]; exact h0
 clear hC h0
 go_enter Tryz.func16,Tryz.ntmps16
 go_wp2_with fail
 rw [← hw0]
 clear hw0
 refine HC.out.mono ?_
 rintro x w1 ⟨rfl,hb1⟩
 have H1 : Hid (Below w.heap.size w w1 ∧ RB w.heap.size w1) := ⟨bel_up' HW.out.1 hb1,HW.out.2.keep hb1⟩
 clear hb1 HW HC
 obtain ⟨⟨x0,c0⟩,⟨x1,c1⟩,⟨x2,c2⟩,f0,f1,f2⟩ := H1.out.2
 go_wp2
 obtain ⟨w12,hw12⟩ : ∃ w12,w12 = laid w1 w.heap.size 0 0 (.slice none 0 0) := ⟨_,rfl⟩
 have H12 : Hid (CB w.heap.size 0 0 (.slice none 0 0) w12 ∧ Below w.heap.size w w12) := by
   rw [hw12]; exact ⟨laid_cb H1.out.2 _ _ _,laid_below H1.out.1 (Nat.le_refl _) _ _ _⟩
 unfold laid at hw12
 rw [← hw12]
 clear hw12 c0 c1 c2 f0 f1 f2
 obtain ⟨c0,c1,c2⟩ := H12.out.1
 refine bodyPost_ret (v := .tuple #[.agg #[.int .i64 0, .int .i64 0, .slice none 0 0], .int .i64 e]) (by simp [results,Tryz.results16,go_sem,c0,c1,c2]) rfl ?_
 exact ⟨rfl,H12.out.2⟩
set_option maxHeartbeats 4000000 in
set_option maxRecDepth 100000 in
theorem pof_e2 {q n : Int} {go : Option Addr} {m cg : Nat} {w : World} (h : n < 1 ∨ 64 < n)
   (hC : ∀ wx,Below w.heap.size w wx → Calls Tryz.prog 54 #[.int .i64 q, .slice go m cg] wx fun x w' => x = .returned (.int .i64 0) ∧ Below wx.heap.size wx w') :
   Calls Tryz.prog 16 #[.int .i64 q, .int .i64 n, .slice go m cg] w (CEr 4 w) := by
 obtain ⟨w0,hw0⟩ : ∃ w0,w0 = w.alloc (.cells #[.int .i64 0, .int .i64 0, .slice none 0 0] 35) := ⟨_,rfl⟩
 have HW : Hid (Below w.heap.size w w0 ∧ RB w.heap.size w0) := by
   rw [hw0]; exact ⟨(Below.refl _ _).alloc (Nat.le_refl _) _,RB.new _ _ _ _⟩
 have HC : Hid (Calls Tryz.prog 54 #[.int .i64 q, .slice go m cg] w0 fun x w' => x = .returned (.int .i64 0) ∧ Below w0.heap.size w0 w') := hC w0 HW.out.1
 clear hC
 have HR : Hid (∀ w1,Below w.heap.size w w1 ∧ RB w.heap.size w1 → CB w.heap.size 0 0 (.slice none 0 0) (laid w1 w.heap.size 0 0 (.slice none 0 0)) ∧ Below w.heap.size w (laid w1 w.heap.size 0 0 (.slice none 0 0))) := fun w1 h => ⟨laid_cb h.2 _ _ _,laid_below h.1 (Nat.le_refl _) _ _ _⟩
 go_enter Tryz.func16,Tryz.ntmps16
 go_wp2_with fail
 rw [← hw0]
 clear hw0
 refine HC.out.mono ?_
 rintro x w1 ⟨rfl,hb1⟩
 have H1 : Hid (Below w.heap.size w w1 ∧ RB w.heap.size w1) := ⟨bel_up' HW.out.1 hb1,HW.out.2.keep hb1⟩
 clear hb1 HW HC
 obtain ⟨⟨x0,c0⟩,⟨x1,c1⟩,⟨x2,c2⟩,f0,f1,f2⟩ := H1.out.2
 by_cases h1 : n < 1
 · clear h
   go_wp2
   obtain ⟨w12,hw12⟩ : ∃ w12,w12 = laid w1 w.heap.size 0 0 (.slice none 0 0) := ⟨_,rfl⟩
   have H12 : Hid (CB w.heap.size 0 0 (.slice none 0 0) w12 ∧ Below w.heap.size w w12) := by rw [hw12]; exact HR.out w1 H1.out
   unfold laid at hw12
   rw [← hw12]
   clear hw12 c0 c1 c2 f0 f1 f2
   obtain ⟨c0,c1,c2⟩ := H12.out.1
   refine bodyPost_ret (v := .tuple #[.agg #[.int .i64 0, .int .i64 0, .slice none 0 0], .int .i64 4]) (by simp [results,Tryz.results16,go_sem,c0,c1,c2]) rfl ?_
   exact ⟨rfl,H12.out.2⟩
 · have h2 : (64 : Int) < n := by omega
   have h3 : n > 64 := h2
   clear h
   go_wp2
   obtain ⟨w12,hw12⟩ : ∃ w12,w12 = laid w1 w.heap.size 0 0 (.slice none 0 0) := ⟨_,rfl⟩
   have H12 : Hid (CB w.heap.size 0 0 (.slice none 0 0) w12 ∧ Below w.heap.size w w12) := by rw [hw12]; exact HR.out w1 H1.out
   unfold laid at hw12
   rw [← hw12]
   clear hw12 c0 c1 c2 f0 f1 f2
   obtain ⟨c0,c1,c2⟩ := H12.out.1
   refine bodyPost_ret (v := .tuple #[.agg #[.int .i64 0, .int .i64 0, .slice none 0 0], .int .i64 4]) (by simp [results,Tryz.results16,go_sem,c0,c1,c2]) rfl ?_
   exact ⟨rfl,H12.out.2⟩
set_option maxHeartbeats 32000000 in
set_option maxRecDepth 100000 in
theorem pof_any {D : FD} (hD : D ∈ fieldsL) {go : Option Addr} {m n nn cg : Nat} {z : Nat → Int} {w : World} (hG : Arg go m cg z w) (hck : D.chk m z = 0) (hn1 : 1 ≤ n) (hn : n ≤ 64) (hnn : n = nn + 1) :
   Calls Tryz.prog 16 #[.int .i64 D.q, .int .i64 (n : Nat), .slice go m cg] w fun x w' => ∃ qa na o k cc,x = .returned (.tuple #[.agg #[.int .i64 qa, .int .i64 na, .slice o k cc], .int .i64 (ofS D n m (zc m z))]) ∧ ToldM (ofS D n m (zc m z)) D.q nn w.heap.size (ofK D n m (zc m z)) qa na o k cc w' ∧ Below w.heap.size w w' := by
 have F := fld hD
 have hm128 := (chk_zero hck).1
 obtain ⟨c,hc⟩ : ∃ c,c = zc m z := ⟨_,rfl⟩
 rw [← hc]
 obtain ⟨w0,hw0⟩ : ∃ w0,w0 = w.alloc (.cells #[.int .i64 0, .int .i64 0, .slice none 0 0] 35) := ⟨_,rfl⟩
 have HW : Hid (Below w.heap.size w w0 ∧ RB w.heap.size w0 ∧ w0.heap.size = w.heap.size + 1) := by
   rw [hw0]; exact ⟨(Below.refl _ _).alloc (Nat.le_refl _) _,RB.new _ _ _ _,by simp⟩
 have HCk : Hid (Calls Tryz.prog 54 #[.int .i64 D.q, .slice go m cg] w0 fun e w' => e = .returned (.int .i64 0) ∧ Below w0.heap.size w0 w') := by
   have h := check_any (cap := cg) hD (hG.below HW.out.1).sl (hG.below HW.out.1).lt hG.few
   rw [hck] at h; exact h
 have HR : Hid (∀ w1,Below w.heap.size w w1 ∧ RB w.heap.size w1 → CB w.heap.size 0 0 (.slice none 0 0) (laid w1 w.heap.size 0 0 (.slice none 0 0)) ∧ Below w.heap.size w (laid w1 w.heap.size 0 0 (.slice none 0 0))) := fun w1 h => ⟨laid_cb h.2 _ _ _,laid_below h.1 (Nat.le_refl _) _ _ _⟩
 obtain ⟨N1,hN1⟩ : ∃ N1,N1 = n + 1 := ⟨_,rfl⟩
 obtain ⟨M,hM⟩ : ∃ M,M = dgn c m := ⟨_,rfl⟩
 obtain ⟨lr,hlr⟩ : ∃ lr,lr = dgn (D.rst (whl D n) (n + 1) c m) (n + 1) := ⟨_,rfl⟩
 obtain ⟨lq,hlq⟩ : ∃ lq,lq = dgn (D.quo (whl D n) (n + 1) c m) (n + 1 - (dgn c m - 1)) := ⟨_,rfl⟩
 have HDv : Hid (∀ wx wo cw,Below w.heap.size w wx → Arg wo N1 cw (fun j => ((whl D n j : Nat) : Int)) wx → Calls Tryz.prog 56 #[.int .i64 D.q, .slice wo N1 cw, .slice go m cg] wx fun e w' => ((M ≠ 0 ∧ ∃ qo qc ro rc,e = .returned (.tuple #[.slice qo lq qc, .slice ro lr rc, .int .i64 0])) ∨ (M = 0 ∧ e = .returned (.tuple #[.slice none 0 0, .slice none 0 0, .int .i64 5]))) ∧ Below wx.heap.size wx w') := fun wx wo cw hx ha => by
   rw [hN1] at ha ⊢
   refine (pdiv_any hD ha (hG.below hx)).mono ?_
   have hz1 : zc (n + 1) (fun j => ((whl D n j : Nat) : Int)) = whl D n := zc_natg whl_bd
   have hc2 : D.chk2 (n + 1) (fun j => ((whl D n j : Nat) : Int)) m z = 0 := by
     unfold FD.chk2
     rw [if_pos (chk_natg (whl_el F n) (by omega)),hck]
   rw [hz1,hc2, ← hc, ← hlr, ← hlq, ← hM]
   rintro e w' ⟨hb,h | h | h⟩
   · obtain ⟨_,h0,v,u,rfl,o1,o2⟩ := h
     obtain ⟨qo,qc,rfl,_⟩ := o1.open
     obtain ⟨ro,rc,rfl,_⟩ := o2.open
     exact ⟨Or.inl ⟨h0,qo,qc,ro,rc,rfl⟩,hb⟩
   · exact ⟨Or.inr ⟨h.2.1,h.2.2⟩,hb⟩
   · exact absurd rfl h.1
 have HSr : Hid (ofS D n m c = if M = 0 then 5 else if lr = 0 then 0 else 3) := by
   show _ = _
   unfold ofS
   rw [← hM, ← hlr]
 have HK : Hid (M ≠ 0 → lr = 0 → ∃ K Q,K + M = n + 1 ∧ El D Q ∧ Bd (K + 1) Q ∧ Q K ≠ 0 ∧ pmul D (K + 1) Q c = whl D n ∧ lq = K + 1 ∧ Bd M c ∧ El D c) := fun h0 h1 => by
   have eg : El D c := by rw [hc]; exact zc_el F hck
   have bg : Bd M c := by rw [hM]; exact dgn_bd (by rw [hc]; exact zc_bd m z)
   obtain ⟨l,hl⟩ : ∃ l,M = l + 1 := ⟨M - 1,by omega⟩
   have tg : c l ≠ 0 := by
     have h := dgn_top c m (by rw [← hM]; exact h0)
     rw [← hM,hl,Nat.add_sub_cancel] at h
     exact h
   unfold FD.rst at hlr
   unfold FD.quo at hlq
   rw [← hM,show M - 1 = l by omega] at hlr hlq
   have hz := rest_zero hD eg (by rw [← hl]; exact bg) tg (by rw [← hlr]; exact h1)
   obtain ⟨K,Q,q1,q2,q3,q4,q5,q6⟩ := of_divQ hD (by rw [← hl]; exact bg) hz
   exact ⟨K,Q,by omega,q2,q3,q4,q5,by rw [hlq,q6],bg,eg⟩
 have HA : Hid (D ∈ fieldsL ∧ Arg go m cg z w ∧ Sl go m c w ∧ n = nn + 1 ∧ M = dgn c m ∧ M ≤ m) := ⟨hD,hG,by rw [hc]; exact zc_sl hck hG.sl,hnn,hM,by rw [hM]; exact dgn_le _ _⟩
 have hlrb : lr ≤ 65 := by rw [hlr]; exact Nat.le_trans (dgn_le _ _) (by omega)
 have hz1 : ¬ (n : Int) < 1 := by omega
 have hz2 : ¬ (64 : Int) < (n : Int) := by omega
 have HN : Hid (((n : Nat) : Int) + 1 = ((N1 : Nat) : Int) ∧ N1 = n + 1) := ⟨by omega,hN1⟩
 have h1q : 1 < D.q := by have := F.q2; omega
 obtain ⟨ng1,hng⟩ : ∃ ng1,ng1 = D.ng 1 := ⟨_,rfl⟩
 have HNg : Hid (ng1 = D.ng 1) := hng
 have hN1b : 2 ≤ N1 ∧ N1 ≤ 65 := by omega
 clear hG hck hc hnn hN1 hM hlr hlq hng hD
 go_enter Tryz.func16,Tryz.ntmps16
 go_wp2_with fail
 rw [← hw0]
 clear hw0
 refine HCk.out.mono ?_
 rintro e w1 ⟨rfl,hb1⟩
 have H1 : Hid (Below w.heap.size w w1 ∧ RB w.heap.size w1 ∧ w.heap.size < w1.heap.size) := ⟨bel_up' HW.out.1 hb1,HW.out.2.1.keep hb1,by have := hb1.size; have := HW.out.2.2; omega⟩
 clear hb1 HW HCk
 go_wp2_with fail
 refine (new_any HA.out.1 w1).mono ?_
 rintro x w2 ⟨Fp,Tp,gf,rfl,hat,_,_,hb2⟩
 have H2 : Hid (Below w.heap.size w w2 ∧ RB w.heap.size w2 ∧ w.heap.size < w2.heap.size ∧ FAt Fp Tp D gf w2) := ⟨bel_up' H1.out.1 hb2,H1.out.2.1.keep hb2,by have := hb2.size; have := H1.out.2.2; omega,hat⟩
 clear hat hb2 H1
 have hin : (n : Int) < (N1 : Int) := by have := HN.out.2; omega
 have hi0 : (0 : Int) < (N1 : Int) := by omega
 have hnn0 : (0 : Int) ≤ (n : Int) := by omega
 go_wp2_with (first | (at_make; refine make_int rfl _ _ rfl _ N1 rfl rfl HN.out.1 (by omega) ?_; intro w3 hown3 hgrow3))
 have H3 : Hid (Row w2.heap.size N1 pnil w3 ∧ Below w2.heap.size w2 w3) := ⟨row_zeros hown3,below_grown hgrow3 (Nat.le_refl _) (fun k hk => by simp at hk)⟩
 clear hown3 hgrow3
 have HNeg : Hid (Calls Tryz.prog 41 #[.pointer (some ⟨Fp,0,none⟩), .int .i64 1] w3 fun e w' => e = .returned (.int .i64 (ng1 : Nat)) ∧ ∃ k,w' = w3.drewN k) := by
   have h := neg_nat HA.out.1 (H2.out.2.2.2.below H3.out.2 H2.out.2.2.2.ltF H2.out.2.2.2.ltT) (a := 1) h1q
   rw [← HNg.out] at h
   exact h
 refine HNeg.out.mono ?_
 rintro e w4 ⟨rfl,k4,hw4⟩
 obtain ⟨G,hG⟩ : ∃ G,G = w2.heap.size := ⟨_,rfl⟩
 have hr4 : Row G N1 pnil w4 := by rw [hw4,hG]; exact H3.out.1.drewN k4
 have hb4 : Below w2.heap.size w2 w4 := by rw [hw4]; exact below_drewN2 H3.out.2 k4
 rw [← hG]
 have c0 := hr4.cell 0 (by omega)
 have f0 := hr4.free 0
 have hr5 := hr4.store 0 ng1 (d := fun j => if j = 0 then ng1 else 0) (fun j _ => rfl)
 have c1 := hr5.cell n (by have := HN.out.2; omega)
 have f1 := hr5.free n
 have hr6 := hr5.store n 1 (d := whl D n) (fun j _ => by show whl D n j = _; unfold whl; rw [HNg.out])
 obtain ⟨w6,hw6⟩ : ∃ w6,w6 = (w4.setCell ⟨G,0,none⟩ (.int .i64 (ng1 : Nat))).setCell ⟨G,n,none⟩ (.int .i64 ((1 : Nat) : Int)) := ⟨_,rfl⟩
 rw [← hw6] at hr6
 have H6 : Hid (Row G N1 (whl D n) w6 ∧ Below w.heap.size w w6 ∧ RB w.heap.size w6 ∧ w.heap.size < w6.heap.size) := by
   have hb6 : Below w2.heap.size w2 w6 := by rw [hw6]; exact (hb4.setCell (show w2.heap.size ≤ G by omega) _).setCell (show w2.heap.size ≤ G by omega) _
   exact ⟨hr6,bel_up' H2.out.1 hb6,H2.out.2.1.keep hb6,by have := hb6.size; have := H2.out.2.2.1; omega⟩
 clear hr4 hr5 hr6 hb4 hw4 hG H3 HNeg
 go_wp2_with fail
 rw [show (1 : Int) = ((1 : Nat) : Int) from rfl, ← hw6]
 clear hw6 c0 c1 f0 f1
 refine (HDv.out w6 _ N1 H6.out.2.1 ⟨slz_ofg (H6.out.1.sl (Nat.le_refl _)),fun x hx => by cases hx; exact H6.out.1.lt,by omega,(fun e => by cases e),Nat.le_refl _,by omega⟩).mono ?_
 rintro e w7 ⟨hres,hb7⟩
 have H7 : Hid (Below w.heap.size w w7 ∧ RB w.heap.size w7 ∧ w.heap.size < w7.heap.size) := ⟨bel_up' H6.out.2.1 hb7,H6.out.2.2.1.keep hb7,by have := hb7.size; have := H6.out.2.2.2; omega⟩
 clear hb7 H6 H2 HDv
 rcases hres with ⟨hM0,qo,qc,ro,rc,rfl⟩ | ⟨hM0,rfl⟩
 · by_cases hlr0 : lr = 0
   · obtain ⟨K,Q,q1,q2,q3,q4,q5,q6,q7,q8⟩ := HK.out hM0 hlr0
     have HS : Hid (ofS D n m c = 0) := by show _ = _; rw [HSr.out,if_neg hM0,if_pos hlr0]
     have HQ : Hid (K + M = n + 1 ∧ El D Q ∧ Bd (K + 1) Q ∧ Q K ≠ 0 ∧ pmul D (K + 1) Q c = whl D n ∧ Bd M c ∧ El D c ∧ 1 ≤ M ∧ lq = K + 1) := ⟨q1,q2,q3,q4,q5,q7,q8,by omega,q6⟩
     have hKb : K ≤ 64 := by omega
     have HKi : Hid (((lq : Nat) : Int) - 1 = ((K : Nat) : Int)) := by show ((lq : Nat) : Int) - 1 = _; omega
     have hlqb : 1 ≤ lq ∧ lq ≤ 66 := by omega
     subst hlr0
     clear q1 q2 q3 q4 q5 q6 q7 q8 hM0 HK HSr
     go_wp2_with (first | (at_make; refine make_sls rfl _ _ rfl _ K rfl rfl HKi.out (by omega) ?_; intro w8 hrow8 hgrow8))
     have H8 : Hid (Mx w7.heap.size w7.heap.size K 0 n (fun i => psh i c) (fun _ => 0) w8 ∧ Below w7.heap.size w7 w8) := ⟨⟨⟨_,hrow8,fun i hi => absurd hi (by omega)⟩,fun i hi => absurd hi (by omega),Nat.le_refl _,fun i hi => absurd hi (by omega),fun i hi => absurd hi (by omega),fun i hi => absurd hi (by omega),by omega⟩,below_grown hgrow8 (Nat.le_refl _) (fun k hk => by simp at hk)⟩
     clear hrow8 hgrow8
     go_loopw [71] (fun vi wr => ∃ r : Nat, ∃ h : Nat → Nat,r ≤ K ∧ vi = .int .i64 r ∧ Hid (Mx w7.heap.size w7.heap.size K r n (fun i => psh i c) h wr ∧ Below w7.heap.size w7 wr)) (fun vi _ => K - (intOf vi).toNat)
     case atStart => exact ⟨0,_,by omega,rfl,H8.out⟩
     case round =>
       clear H8
       obtain ⟨r,h,hr,rfl,HG⟩ := hrel
       rename World => wr
       by_cases hlt : r < K
       · have hib : (r : Int) < (K : Int) := by omega
         have hsz := HG.out.2.size
         have hGl := HG.out.1.ltG
         have hrm : r + M ≤ n := by have := HQ.out.1; omega
         have hrn1 : r < n := by have := HQ.out.2.2.2.2.2.2.2.1; omega
         have hrn : (r : Int) ≤ (n : Int) := by omega
         have hr0 : (0 : Int) ≤ (r : Int) := by omega
         go_wp2_with (first
           | (at_make
              refine make_int rfl _ _ rfl _ n rfl rfl (by omega) (by omega) ?_
              intro w9 hown9 hgrow9
              have hb9 : Below wr.heap.size wr w9 := below_grown hgrow9 (Nat.le_refl _) (fun k hk => by simp at hk)
              obtain ⟨f,hf,_⟩ := (HG.out.1.below hb9).outer
              have hcG := hf.cell r hlt
              have hfG := hf.free r
              have hcG2 := (hf.store r (.slice (some ⟨wr.heap.size,0,none⟩) n n)).cell r hlt
              rw [upd_at] at hcG2
              have hrw := (row_zeros hown9).other (Below.heap_setCell w9 ⟨w7.heap.size,r,none⟩ (.slice (some ⟨wr.heap.size,0,none⟩) n n) wr.heap.size (by show wr.heap.size ≠ w7.heap.size; omega))
              have hbs : Below w7.heap.size w7 (w9.setCell ⟨w7.heap.size,r,none⟩ (.slice (some ⟨wr.heap.size,0,none⟩) n n)) := (bel_up' HG.out.2 hb9).setCell (Nat.le_refl _) _
              have HSg : Hid (Row wr.heap.size n pnil (w9.setCell ⟨w7.heap.size,r,none⟩ (.slice (some ⟨wr.heap.size,0,none⟩) n n)) ∧ Sl go m c (w9.setCell ⟨w7.heap.size,r,none⟩ (.slice (some ⟨wr.heap.size,0,none⟩) n n)) ∧ Below w7.heap.size w7 (w9.setCell ⟨w7.heap.size,r,none⟩ (.slice (some ⟨wr.heap.size,0,none⟩) n n)) ∧ Below wr.heap.size wr w9) := ⟨hrw,HA.out.2.2.1.below (bel_up' H7.out.1 hbs) HA.out.2.1.lt,hbs,hb9⟩
              clear hrw hbs hf hown9 hgrow9 hb9)
           | (show wpList _ _ _ (Oper.mk (some 86) _ _ _ _ _ :: _) _ _
              refine copy_cut rfl _ _ rfl wr.heap.size n r (n - r) (n - r) m cg go rfl rfl pnil c HSg.out.1 HSg.out.2.1 (by omega) wr.heap.size (w9.setCell ⟨w7.heap.size,r,none⟩ (.slice (some ⟨wr.heap.size,0,none⟩) n n)) (Below.refl _ _) (Nat.le_refl _) ?_
              intro w10 hrow10 hb10))
         have HR2 : Hid (∃ h',Mx w7.heap.size w7.heap.size K (r + 1) n (fun i => psh i c) h' w10 ∧ Below w7.heap.size w7 w10) := by
           have hrow11 : Row wr.heap.size n (psh r c) w10 := hrow10.congr (fun k hk => by
             have hMm := HA.out.2.2.2.2.2
             unfold psh
             by_cases e1 : r ≤ k
             · rw [if_pos e1]
               by_cases e2 : k < r + min (n - r) m
               · rw [if_pos ⟨e1,e2⟩]
               · rw [if_neg (by omega),HQ.out.2.2.2.2.2.1 (k - r) (by omega)]; rfl
             · rw [if_neg e1,if_neg (fun h => e1 h.1)]; rfl)
           have hpush := HG.out.1.push hlt HSg.out.2.2.2 hb10 hrow11 hsz
           refine ⟨_,hpush.congr (fun i hi j hj => ?_),HSg.out.2.2.1.trans (hb10.mono hsz)⟩
           by_cases e : i = r
           · rw [if_pos e,e]
           · rw [if_neg e]
         clear hrow10 hb10
         obtain ⟨h',hR'⟩ := HR2.out
         go_roundw
         case rel => exact ⟨r + 1,h',by omega,by go_num,hR'⟩
         case measure => simp [intOf]; omega
       · have hib : ¬ (r : Int) < (K : Int) := by omega
         have hre : K = r := by omega
         subst hre
         have HMk : Hid (Calls Tryz.prog 57 #[.agg #[.int .i64 D.q, .int .i64 (n : Nat), .slice (some ⟨w7.heap.size,0,none⟩) K K]] wr fun x w' => ∃ k R ro rc,x = .returned (.tuple #[.agg #[.int .i64 D.q, .int .i64 (n : Nat), .slice ro k rc], .int .i64 0]) ∧ MV wr.heap.size (.slice ro k rc) k n R w' ∧ Red D n K (fun i => psh i c) k R ∧ Below wr.heap.size wr w') := by
           have hbd : ∀ i,i < K → Bd n (psh i c) := fun i hi k hk => by
             have := HQ.out.1
             unfold psh
             split
             · exact HQ.out.2.2.2.2.2.1 (k - i) (by omega)
             · rfl
           have hel : ∀ i,i < K → El D (psh i c) := fun i hi k => by
             unfold psh
             split
             · exact HQ.out.2.2.2.2.2.2.1 _
             · omega
           obtain ⟨A,C,hcd⟩ := (HG.out.1.rlz (Nat.le_refl _) (by omega) K).cdz (D := D) hn1 hn (by omega) hel
           have hcod : Cod D n (some ⟨w7.heap.size,0,none⟩) K (fun i => psh i c) wr := ⟨A,_,C,_,hcd,fun i hi => mzc_rows hbd i hi⟩
           refine (cMake_ok HA.out.1 hcd (hcod.chk HA.out.1 K)).mono ?_
           rintro x w' ⟨k,R,ro,rc,rfl,h1,h2,h3⟩
           exact ⟨k,R,ro,rc,rfl,h1,h2.of_eq (fun i hi => mzc_rows hbd i hi),h3⟩
         go_wp2_with fail
         refine HMk.out.mono ?_
         rintro x w11 ⟨k,R,ro,rc,rfl,hmv,hred,hb11⟩
         have H11 : Hid (MV wr.heap.size (.slice ro k rc) k n R w11 ∧ Red D n K (fun i => psh i c) k R ∧ Below w.heap.size w w11 ∧ RB w.heap.size w11 ∧ w.heap.size < wr.heap.size) := by
           have hbb := bel_up' HG.out.2 hb11
           exact ⟨hmv,hred,bel_up' H7.out.1 hbb,H7.out.2.1.keep hbb,by have := HG.out.2.size; have := H7.out.2.2; omega⟩
         clear hmv hred hb11
         obtain ⟨⟨x0,c0⟩,⟨x1,c1⟩,⟨x2,c2⟩,f0,f1,f2⟩ := H11.out.2.2.2.1
         go_wp2
         obtain ⟨w12,hw12⟩ : ∃ w12,w12 = laid w11 w.heap.size D.q (n : Nat) (.slice ro k rc) := ⟨_,rfl⟩
         have H12 : Hid (CB w.heap.size D.q (n : Nat) (.slice ro k rc) w12 ∧ MV w.heap.size (.slice ro k rc) k n R w12 ∧ Below w.heap.size w w12) := by
           rw [hw12]; exact ⟨laid_cb H11.out.2.2.2.1 _ _ _,(laid_mv H11.out.1 H11.out.2.2.2.2 _ _ _).mono (Nat.le_of_lt H11.out.2.2.2.2),laid_below H11.out.2.2.1 (Nat.le_refl _) _ _ _⟩
         unfold laid at hw12
         rw [← hw12]
         clear hw12 c0 c1 c2 f0 f1 f2
         obtain ⟨c0,c1,c2⟩ := H12.out.1
         refine bodyPost_ret (v := .tuple #[.agg #[.int .i64 D.q, .int .i64 (n : Nat), .slice ro k rc], .int .i64 0]) (by simp [results,Tryz.results16,go_sem,c0,c1,c2]) rfl ?_
         refine ⟨_,_,_,_,_,by (first | (rw [HS.out]; rfl) | rw [HS.out]),⟨fun _ => ⟨rfl,by rw [HA.out.2.2.2.1],by have := H11.out.2.1.le; omega,R,by rw [← HA.out.2.2.2.1]; exact H12.out.2.1, ?_⟩,fun h => absurd HS.out h⟩,H12.out.2.2⟩
         obtain ⟨p,hp1,hp2⟩ := H11.out.2.1
         unfold ofK
         rw [← HA.out.2.2.2.2.1]
         exact ⟨p,hp1,fun v => (hp2 v).trans (trw_spn HA.out.1 HQ.out.2.2.2.2.2.2.2.1 HQ.out.2.2.2.2.2.2.1 HQ.out.2.2.2.2.2.1 HQ.out.1 hn1 HQ.out.2.2.2.2.1 v).symm⟩
   · have HS : Hid (ofS D n m c = 3) := by show _ = _; rw [HSr.out,if_neg hM0,if_neg hlr0]
     have hl1 : (0 : Int) < (lr : Int) := by omega
     have hl2 : (lr : Int) > 0 := hl1
     clear hlr0 hM0 HK HSr
     obtain ⟨⟨x0,c0⟩,⟨x1,c1⟩,⟨x2,c2⟩,f0,f1,f2⟩ := H7.out.2.1
     go_wp2
     obtain ⟨w12,hw12⟩ : ∃ w12,w12 = laid w7 w.heap.size 0 0 (.slice none 0 0) := ⟨_,rfl⟩
     have H12 : Hid (CB w.heap.size 0 0 (.slice none 0 0) w12 ∧ Below w.heap.size w w12) := by rw [hw12]; exact HR.out w7 ⟨H7.out.1,H7.out.2.1⟩
     unfold laid at hw12
     rw [← hw12]
     clear hw12 c0 c1 c2 f0 f1 f2
     obtain ⟨c0,c1,c2⟩ := H12.out.1
     refine bodyPost_ret (v := .tuple #[.agg #[.int .i64 0, .int .i64 0, .slice none 0 0], .int .i64 3]) (by simp [results,Tryz.results16,go_sem,c0,c1,c2]) rfl ?_
     refine ⟨0,0,none,0,0,by (first | (rw [HS.out]; rfl) | rw [HS.out]),⟨fun h => ?_,fun _ => ⟨rfl,rfl,rfl,rfl,rfl⟩⟩,H12.out.2⟩
     rw [HS.out] at h; cases h
 · have HS : Hid (ofS D n m c = 5) := by show _ = _; rw [HSr.out,if_pos hM0]
   clear hM0 HK HSr
   obtain ⟨⟨x0,c0⟩,⟨x1,c1⟩,⟨x2,c2⟩,f0,f1,f2⟩ := H7.out.2.1
   go_wp2
   obtain ⟨w12,hw12⟩ : ∃ w12,w12 = laid w7 w.heap.size 0 0 (.slice none 0 0) := ⟨_,rfl⟩
   have H12 : Hid (CB w.heap.size 0 0 (.slice none 0 0) w12 ∧ Below w.heap.size w w12) := by rw [hw12]; exact HR.out w7 ⟨H7.out.1,H7.out.2.1⟩
   unfold laid at hw12
   rw [← hw12]
   clear hw12 c0 c1 c2 f0 f1 f2
   obtain ⟨c0,c1,c2⟩ := H12.out.1
   refine bodyPost_ret (v := .tuple #[.agg #[.int .i64 0, .int .i64 0, .slice none 0 0], .int .i64 5]) (by simp [results,Tryz.results16,go_sem,c0,c1,c2]) rfl ?_
   refine ⟨0,0,none,0,0,by (first | (rw [HS.out]; rfl) | rw [HS.out]),⟨fun h => ?_,fun _ => ⟨rfl,rfl,rfl,rfl,rfl⟩⟩,H12.out.2⟩
   rw [HS.out] at h; cases h
theorem WR.uniq {E G G' : FD} {n : Nat} (h : WR E n G) (h' : WR E n G') : G = G' := by
 obtain ⟨i,e,l⟩ := h.least
 obtain ⟨i',e',l'⟩ := h'.least
 have hii : i' = i := by
   rcases Nat.lt_trichotomy i' i with c | c | c
   · exact absurd (by rw [← e']; exact h'.root) (l i' c)
   · exact c
   · exact absurd (by rw [← e]; exact h.root) (l' i c)
 exact fd_q h.fld h'.fld (by rw [e,e',hii])
theorem zrL_nd (q n : Nat) (z : Nat → Nat) (m : Nat) : (zrL q n z m).Nodup := List.nodup_range.filter _
theorem zrL_lt {q n m : Nat} {z : Nat → Nat} : ∀ k ∈ zrL q n z m,k < n := fun _ hk => List.mem_range.1 (List.mem_filter.1 hk).1
theorem zrL_mem {q n m x : Nat} {z : Nat → Nat} (hn : 0 < n) : x ∈ zrL q n z m ↔ Clo q n z m x := by
 unfold zrL
 rw [List.mem_filter,zrB_iff hn,List.mem_range]
 refine ⟨fun h => h.2,fun h => ⟨?_,h⟩⟩
 obtain ⟨i,_,j,e⟩ := h
 rw [← e]; exact orb_lt hn
theorem zrL_cl {q n m : Nat} {z : Nat → Nat} (hn : 0 < n) : Clq q n (zrL q n z m) := fun k hk => by
 obtain ⟨i,hi,j,e⟩ := (zrL_mem hn).1 hk
 refine (zrL_mem hn).2 ⟨i,hi,j + 1, ?_⟩
 rw [orb_succ,e]
theorem zrL_len {q n m : Nat} {z : Nat → Nat} : (zrL q n z m).length ≤ n := nd_len (zrL_nd q n z m) zrL_lt
theorem gen_of {E G : FD} {n : Nat} (h : Szo E n) (hW : WR E n G) {T : List Nat} (hnd : T.Nodup) (hlt : ∀ k ∈ T, k < n) (hcl : Clq E.q n T) :
   El E (gnr G E (G.xp G.gen ((G.q - 1) / n)) T) ∧ Bd (T.length + 1) (gnr G E (G.xp G.gen ((G.q - 1) / n)) T) ∧ ofS E n (T.length + 1) (gnr G E (G.xp G.gen ((G.q - 1) / n)) T) = 0 := by
 have hO := ord_of h.fld h.n1 h.n64 h.p
 obtain ⟨b,hbe⟩ : ∃ b,b = G.xp G.gen ((G.q - 1) / n) := ⟨_,rfl⟩
 have hrt : Rt G b n := by
   rw [hbe, ← pw_xp hW.fld (gen_ne hW.fld).2]
   exact root_rt hW.fld hW.root
 rw [← hbe]
 have gS := gnr_is hW.fld h.fld hW.over hrt hO hnd hlt hcl
 have gT := gnr_is hW.fld h.fld hW.over hrt hO (List.nodup_range.filter _) (fun k hk => List.mem_range.1 (List.mem_filter.1 hk).1) (co_cl hO hcl)
 have hp := co_perm hnd hlt
 have hdv := gnr_div hW.fld h.fld hW.over h.n1 hrt gS gT hp
 have hlen := hp.length_eq
 rw [List.length_append,List.length_range] at hlen
 refine ⟨gS.el,gS.bd, ?_⟩
 have tg : gnr G E b T (T.length + 1 - 1) ≠ 0 := by rw [Nat.add_sub_cancel,gS.top]; omega
 obtain ⟨k1,_,k3⟩ := whl_div h.fld (m := T.length + 1) (n := n) (by omega) gS.el gS.bd tg (by omega) gT.el gT.bd (by rw [gT.top]; omega) hdv
 unfold ofS
 rw [k1,if_neg (by omega),if_pos k3]
def zrK (E : FD) (n : Nat) (z : Nat → Nat) (m k : Nat) (R : Nat → Nat → Nat) : Prop := ∃ G,WR E n G ∧ ofK E n ((zrL E.q n z m).length + 1) (gnr G E (G.xp G.gen ((G.q - 1) / n)) (zrL E.q n z m)) k R
theorem zrK_uni {E : FD} (hE : E ∈ fieldsL) (n : Nat) (z : Nat → Nat) (m : Nat) : UniF (zrK E n z m) := fun _ _ _ _ h h' => by
 obtain ⟨G,hW,h⟩ := h
 obtain ⟨G',hW',h'⟩ := h'
 have e := hW.uniq hW'
 subst e
 exact ofK_uni hE _ _ _ _ _ _ _ h h'
set_option maxHeartbeats 8000000 in
set_option maxRecDepth 100000 in
theorem zat_told {E : FD} {n nn : Nat} (h : Szo E n) (hnn : n = nn + 1) {m zc : Nat} {zo : Option Addr} {z : Nat → Nat} {w : World} (hm : m ≤ 64) (hz : SlZ zo m (fun i => ((z i : Nat) : Int)) w) (hzl : LtB zo w.heap.size) (hzn : ∀ i, i < m → z i < n) :
   Calls Tryz.prog 63 #[.int .i64 E.q, .int .i64 (n : Nat), .slice zo m zc] w fun x w' => ∃ qa na o k c,x = .returned (.tuple #[.agg #[.int .i64 qa, .int .i64 na, .slice o k c], .int .i64 0]) ∧ ToldM 0 E.q nn w.heap.size (zrK E n z m) qa na o k c w' ∧ Below w.heap.size w w' := by
 obtain ⟨w0,hw0⟩ : ∃ w0,w0 = w.alloc (.cells #[.int .i64 0, .int .i64 0, .slice none 0 0] 35) := ⟨_,rfl⟩
 have HW : Hid (Below w.heap.size w w0 ∧ RB w.heap.size w0 ∧ w0.heap.size = w.heap.size + 1) := by
   rw [hw0]; exact ⟨(Below.refl _ _).alloc (Nat.le_refl _) _,RB.new _ _ _ _,by simp⟩
 obtain ⟨G,hWR,hR⟩ := h.wr
 have hO := ord_of h.fld h.n1 h.n64 h.p
 obtain ⟨N,hN⟩ : ∃ N,N = (zrL E.q n z m).length + 1 := ⟨_,rfl⟩
 obtain ⟨g,hg⟩ : ∃ g,g = gnr G E (G.xp G.gen ((G.q - 1) / n)) (zrL E.q n z m) := ⟨_,rfl⟩
 have HG : Hid (Calls Tryz.prog 10 #[.int .i64 E.q, .int .i64 (n : Nat), .slice zo m zc] w0 fun x w' => ∃ ao ca,x = .returned (.tuple #[.slice ao N ca, .int .i64 0]) ∧ Arg ao N ca (fun k => ((g k : Nat) : Int)) w' ∧ Below w0.heap.size w0 w') := by
   have hz0 := slz_bel hz hzl HW.out.1
   refine (cgen_ok h.fld hWR hO h.n1 h.n64 hm hz0.1 hz0.2 hzn (h.zeros hm hz0.1 hz0.2 hzn) hR).mono ?_
   rintro x w' ⟨v,L,rfl,hL,ho,hb⟩
   rw [rsn_zrL (by have := h.n1; omega) hL, ← hN, ← hg] at ho
   obtain ⟨ao,ca,rfl,hA⟩ := ho.argL
   exact ⟨ao,ca,rfl,hA.arg (by have := zrL_len (q := E.q) (n := n) (m := m) (z := z); have := h.n64; omega),hb⟩
 have HOf : Hid (∀ wx ao ca,Arg ao N ca (fun k => ((g k : Nat) : Int)) wx → Calls Tryz.prog 16 #[.int .i64 E.q, .int .i64 (n : Nat), .slice ao N ca] wx fun x w' => ∃ qa na o k cc,x = .returned (.tuple #[.agg #[.int .i64 qa, .int .i64 na, .slice o k cc], .int .i64 0]) ∧ ToldM 0 E.q nn wx.heap.size (zrK E n z m) qa na o k cc w' ∧ Below wx.heap.size wx w') := fun wx ao ca hA => by
   obtain ⟨g1,g2,g3⟩ := gen_of h hWR (zrL_nd E.q n z m) zrL_lt (zrL_cl (by have := h.n1; omega))
   rw [← hg, ← hN] at g2 g3
   rw [← hg] at g1
   have hz1 : Go.Proofs.YtppggchhkckobaaGreat.zc N (fun k => ((g k : Nat) : Int)) = g := zc_natg g2
   have hh := pof_any h.fld hA (chk_natg g1 (by have := zrL_len (q := E.q) (n := n) (m := m) (z := z); have := h.n64; omega)) h.n1 h.n64 hnn
   rw [hz1,g3] at hh
   refine hh.mono ?_
   rintro x w' ⟨qa,na,o,k,cc,rfl,hT,hb⟩
   refine ⟨qa,na,o,k,cc,rfl,⟨fun e => ?_,hT.2⟩,hb⟩
   obtain ⟨q1,q2,q3,R,q4,q5⟩ := hT.1 e
   exact ⟨q1,q2,q3,R,q4,G,hWR,by rw [← hg, ← hN]; exact q5⟩
 clear h hz hzl hzn hR hWR hO hN hg hnn
 go_enter Tryz.func63,Tryz.ntmps63
 go_wp2_with fail
 rw [← hw0]
 clear hw0
 refine HG.out.mono ?_
 rintro x w1 ⟨ao,ca,rfl,hA,hb1⟩
 have H1 : Hid (Arg ao N ca (fun k => ((g k : Nat) : Int)) w1 ∧ Below w.heap.size w w1 ∧ RB w.heap.size w1 ∧ w.heap.size < w1.heap.size) := ⟨hA,bel_up' HW.out.1 hb1,HW.out.2.1.keep hb1,by have := hb1.size; have := HW.out.2.2; omega⟩
 clear hA hb1 HW HG
 go_wp2_with fail
 refine (HOf.out w1 ao ca H1.out.1).mono ?_
 rintro x w11 ⟨qa,na,o,k,cc,rfl,hT,hb11⟩
 have H11 : Hid (ToldM 0 E.q nn w1.heap.size (zrK E n z m) qa na o k cc w11 ∧ Below w.heap.size w w11 ∧ RB w.heap.size w11 ∧ w.heap.size < w1.heap.size) := ⟨hT,bel_up' H1.out.2.1 hb11,H1.out.2.2.1.keep hb11,H1.out.2.2.2⟩
 clear hT hb11 H1 HOf
 obtain ⟨⟨x0,c0⟩,⟨x1,c1⟩,⟨x2,c2⟩,f0,f1,f2⟩ := H11.out.2.2.1
 go_wp2
 obtain ⟨w12,hw12⟩ : ∃ w12,w12 = laid w11 w.heap.size qa na (.slice o k cc) := ⟨_,rfl⟩
 have H12 : Hid (CB w.heap.size qa na (.slice o k cc) w12 ∧ ToldM 0 E.q nn w.heap.size (zrK E n z m) qa na o k cc w12 ∧ Below w.heap.size w w12) := by
   rw [hw12]; exact ⟨laid_cb H11.out.2.2.1 _ _ _,(H11.out.1.laid H11.out.2.2.2 _ _ _).mono (Nat.le_of_lt H11.out.2.2.2),laid_below H11.out.2.1 (Nat.le_refl _) _ _ _⟩
 unfold laid at hw12
 rw [← hw12]
 clear hw12 c0 c1 c2 f0 f1 f2
 obtain ⟨c0,c1,c2⟩ := H12.out.1
 refine bodyPost_ret (v := .tuple #[.agg #[.int .i64 qa, .int .i64 na, .slice o k cc], .int .i64 0]) (by simp [results,Tryz.results63,go_sem,c0,c1,c2]) rfl ?_
 exact ⟨_,_,_,_,_,rfl,H12.out.2⟩
end Go.Proofs.YtppggchhkckobaaGreat
