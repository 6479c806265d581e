/- Texts of ours, one behind the other: KT28 S77 KT29. -/
import Derived.Test.YtppggchhkckobaaGreatZKT27
import Derived.Test.YtppggchhkckobaaGreatZKT22
import Derived.Test.YtppggchhkckobaaGreatZI27
import Derived.Test.YtppggchhkckobaaGreatZKT18
import Derived.Test.YtppggchhkckobaaGreatZV6
import Derived.Test.YtppggchhkckobaaGreatZV2
namespace Go.Proofs.YtppggchhkckobaaGreat
open Go.RowKit Go.Sort
set_option maxHeartbeats 4000000 in
set_option maxRecDepth 100000 in
theorem rgen_e2 {E : FD} (hE : E ∈ fieldsL) {n m zc : Nat} {zo : Option Addr} {P : Value → World → Prop} {w : World} (hn1 : 1 ≤ n) (hn : n ≤ 64) (hW : WRn E n)
   (hC : Calls Tryz.prog 43 #[.int .i64 E.q, .int .i64 (n : Nat), .slice zo m zc] w fun x w' => ∃ v,x = .returned (.tuple #[v, .int .i64 0]) ∧ P v w' ∧ Below w.heap.size w w') :
   Calls Tryz.prog 11 #[.int .i64 E.q, .int .i64 (n : Nat), .slice zo m zc] w fun x w' => x = .returned (.tuple #[.slice none 0 0, .int .i64 4]) ∧ Below w.heap.size w w' := by
 have HC : Hid (Calls Tryz.prog 43 #[.int .i64 E.q, .int .i64 (n : Nat), .slice zo m zc] w fun x w' => ∃ v,x = .returned (.tuple #[v, .int .i64 0]) ∧ P v w' ∧ Below w.heap.size w w') := hC
 have hqE := (good hE).q64
 have hq2 := (fld hE).q2
 obtain ⟨q,hq⟩ : ∃ q,q = E.q := ⟨_,rfl⟩
 rw [← hq] at hqE hq2 HC ⊢
 have HW : Hid (WRn E n ∧ q = E.q) := ⟨hW,hq⟩
 clear hE hC hW hq
 go_enter Tryz.func11,Tryz.ntmps11
 go_wp2_with fail
 refine HC.out.mono ?_
 rintro x w1 ⟨v,rfl,_,hb1⟩
 have H1 : Hid (Below w.heap.size w w1) := hb1
 clear hb1 HC
 go_wp2
 go_loopw [10] (fun vs wx => ∃ i s : Nat,vs = .int .i64 (s : Nat) ∧ s ≤ 4096 ∧ wx = w1 ∧ Hid (s = q ^ (i + 1))) (fun vs _ => 4097 - (intOf vs).toNat)
 case atStart => exact ⟨0,q,rfl,by omega,rfl,(by rw [Nat.pow_one] : q = q ^ (0 + 1))⟩
 case round =>
   obtain ⟨i,s,rfl,hs,hwx,HI⟩ := hrel
   have hwx := hwx.symm
   subst hwx
   by_cases h64 : s ≤ 64
   · have hsi : (s : Int) ≤ 64 := by omega
     have hs1 : 1 ≤ s := by rw [HI.out]; exact Nat.pow_pos (by omega)
     obtain ⟨t,ht⟩ : ∃ t,t = s - 1 := ⟨_,rfl⟩
     have hti : (s : Int) - 1 = (t : Int) := by omega
     obtain ⟨r,hr⟩ : ∃ r,r = t % n := ⟨_,rfl⟩
     have hn0 : ¬ (n : Int) = 0 := by omega
     have hn0b : ((n : Int) == 0) = false := by rw [beq_eq_false_iff_ne]; omega
     have hrm : (t : Int).tmod (n : Int) = (r : Int) := by rw [Int.tmod_eq_emod_of_nonneg (by omega),hr]; omega
     have hre : (t : Int) % (n : Int) = (r : Int) := by rw [hr]; omega
     have hrb : r ≤ 64 := by rw [hr]; exact Nat.le_trans (Nat.mod_le _ _) (by omega)
     have htw : IntKind.i64.wrap (t : Int) = (t : Int) := wrap_to rfl (by omega)
     have hr0 : r ≠ 0 := by
       have e := HI.out
       rw [HW.out.2] at e
       rw [hr,ht,e]
       exact HW.out.1 i (by rw [← e]; exact h64)
     have hr0b : ((r : Int) != 0) = true := by rw [bne_iff_ne]; omega
     obtain ⟨s2,hs2⟩ : ∃ s2,s2 = s * q := ⟨_,rfl⟩
     have hs2i : (s : Int) * (q : Int) = (s2 : Int) := by rw [hs2]; simp
     have hs2b : s2 ≤ 4096 := by rw [hs2]; exact Nat.le_trans (Nat.mul_le_mul h64 hqE) (by decide)
     have hs2w : IntKind.i64.wrap (s2 : Int) = (s2 : Int) := wrap_to rfl (by omega)
     have hs2g : s < s2 := by
       rw [hs2]
       have : s * 2 ≤ s * q := Nat.mul_le_mul_left s hq2
       omega
     have HN : Hid (s2 = q ^ (i + 1 + 1)) := by show _ = _; rw [hs2,HI.out, ← Nat.pow_succ]
     clear hs2 ht hr
     go_wp2
     go_roundw
     case rel => exact ⟨i + 1,s2,by first | rfl | go_num,hs2b,by first | rfl | trivial,HN.out⟩
     case measure => simp [intOf]; omega
   · have hsi : ¬ (s : Int) ≤ 64 := by omega
     have hsi2 : (s : Int) > 64 := by omega
     have hsi3 : (64 : Int) < (s : Int) := by omega
     go_wp2
     go_ret2
     exact ⟨rfl,H1.out⟩
theorem of_div {D : FD} (hD : D ∈ fieldsL) {g : Nat → Nat} {l n : Nat} (bg : Bd (l + 1) g)
   (h : divR D g l (D.iv (g l)) (n + 1 - l) (whl D n) = pnil) : ∃ K Q,K + (l + 1) = n + 1 ∧ El D Q ∧ Bd (K + 1) Q ∧ Q K ≠ 0 ∧ pmul D (K + 1) Q g = whl D n := by
 have F := fld hD
 have hw : whl D n n = 1 := by unfold whl; rw [if_pos rfl]
 by_cases c : n < l
 · rw [show n + 1 - l = 0 by omega] at h
   have h1 := congrFun h n
   have h1 : whl D n n = 0 := h1
   omega
 · obtain ⟨K,hK⟩ : ∃ K,K + (l + 1) = n + 1 := ⟨n - l,by omega⟩
   have e : n + 1 - l = K + 1 := by omega
   rw [e] at h
   have hd := div_is F (b := g) (l := l) (inv := D.iv (g l)) (K + 1) (whl_el F n)
   rw [h,padd_nil F (el_mul F _ _ _)] at hd
   refine ⟨K,_,hK,el_divQ F (K + 1) (whl D n),divQ_bd (K + 1) (whl D n),fun h0 => ?_,hd⟩
   have h1 := congrFun hd (K + l)
   rw [pmul_top F bg,h0,F.mul_comm,mul0 F] at h1
   rw [show K + l = n by omega] at h1
   omega
theorem rest_zero {D : FD} (hD : D ∈ fieldsL) {g : Nat → Nat} {l n : Nat} (eg : El D g) (bg : Bd (l + 1) g) (tg : g l ≠ 0) (h : dgn (divR D g l (D.iv (g l)) (n + 1 - l) (whl D n)) (n + 1) = 0) : divR D g l (D.iv (g l)) (n + 1 - l) (whl D n) = pnil := by
 have F := fld hD
 have hb : Bd (n + 1) (divR D g l (D.iv (g l)) (n + 1 - l) (whl D n)) := by
   by_cases c : l ≤ n + 1
   · exact (divR_bd F eg bg (iv_is hD (eg l) tg) (n + 1 - l) (whl_el F n) (by rw [show n + 1 - l + l = n + 1 by omega]; exact whl_bd)).mono c
   · rw [show n + 1 - l = 0 by omega]
     exact whl_bd
 funext k
 by_cases c : k < n + 1
 · exact dgn_zero _ _ k (by omega) c
 · exact hb k (by omega)
def ofS (D : FD) (n m : Nat) (c : Nat → Nat) : Int := if dgn c m = 0 then 5 else if dgn (D.rst (whl D n) (n + 1) c m) (n + 1) = 0 then 0 else 3
def ofK (D : FD) (n m : Nat) (c : Nat → Nat) (k : Nat) (R : Nat → Nat → Nat) : Prop := Red D n n (fun i => trw D n i c (dgn c m)) k R
theorem ofK_uni {D : FD} (hD : D ∈ fieldsL) (n m : Nat) (c : Nat → Nat) : UniF (ofK D n m c) := fun _ _ _ _ h h' => h.uniq (fld hD) h' (fun _ => Iff.rfl)
theorem cyb_put {b : Nat} {q n : Int} {v : Value} {w : World} (h : CB b q n v w) (ht : RBt b w) (u : Value) : CB b q n u (w.setCell ⟨b,2,none⟩ u) ∧ RBt b (w.setCell ⟨b,2,none⟩ u) := by
 obtain ⟨cs,hcs⟩ := ht
 have hf : RowF b cs.size 35 (fun o => cs.getD o undef) w := ⟨cs,hcs,rfl,fun o ho => by simp [Array.getD,ho]⟩
 have e : ∀ o,w.cell? ⟨b,o,none⟩ = cs[o]? := fun o => cell_of_row w b o cs _ (0,0) hcs
 have h2 : 2 < cs.size := by
   have := h.c2
   rw [e] at this
   exact (Array.getElem?_eq_some_iff.1 this).1
 have hs := hf.store 2 u
 refine ⟨⟨?_, ?_, ?_⟩, ?_⟩
 · rw [hs.cell 0 (by omega)]
   unfold upd
   rw [if_neg (by omega), ← h.c0,hf.cell 0 (by omega)]
 · rw [hs.cell 1 (by omega)]
   unfold upd
   rw [if_neg (by omega), ← h.c1,hf.cell 1 (by omega)]
 · rw [hs.cell 2 (by omega)]
   unfold upd
   rw [if_pos rfl]
 · obtain ⟨cs',h1,_⟩ := hs
   exact ⟨cs',h1⟩
theorem cyt_free {b : Nat} {w : World} (h : RBt b w) (o : Nat) : w.frozen? ⟨b,o,none⟩ = false := by
 obtain ⟨cs,hcs⟩ := h
 exact frozen_of_row w b o cs _ hcs
theorem cyt_other {b : Nat} {w w' : World} (h : RBt b w) (e : w'.heap[b]? = w.heap[b]?) : RBt b w' := by
 obtain ⟨cs,hcs⟩ := h
 exact ⟨cs,e.trans hcs⟩
theorem cyb_other {b : Nat} {q n : Int} {v : Value} {w w' : World} (h : CB b q n v w) (e : w'.heap[b]? = w.heap[b]?) : CB b q n v w' := by
 have ec : ∀ o,w'.cell? ⟨b,o,none⟩ = w.cell? ⟨b,o,none⟩ := fun o => by simp [World.cell?,e]
 exact ⟨by rw [ec]; exact h.c0,by rw [ec]; exact h.c1,by rw [ec]; exact h.c2⟩
theorem lls_cyb {base b o : Nat} {v x : Value} {L : List (Nat × (Nat → Nat))} {w : World} (h : LLs base v L w) (ht : RBt b w) : LLs base v L (w.setCell ⟨b,o,none⟩ x) := by
 obtain ⟨l,h1,h2⟩ := h
 refine ⟨l,h1.same (fun g hg => Below.heap_setCell _ _ _ _ (h1.notCode ht g hg)),h2.1,fun j u p hu hp => ?_⟩
 obtain ⟨g,cap,e,a1,a2,hr⟩ := h2.2 j u p hu hp
 exact ⟨g,cap,e,a1,a2,hr.other (Below.heap_setCell _ _ _ _ (hr.notCode ht))⟩
set_option maxHeartbeats 4000000 in
set_option maxRecDepth 100000 in
theorem rof_e1 {q n e : Int} {go : Option Addr} {m cg : Nat} {w : World} (h0 : e ≠ 0)
   (hC : ∀ wx,Below w.heap.size w wx → Calls Tryz.prog 58 #[.int .i64 q, .slice go m cg] wx fun x w' => x = .returned (.int .i64 e) ∧ Below wx.heap.size wx w') :
   Calls Tryz.prog 17 #[.int .i64 q, .int .i64 n, .slice go m cg] w (CEr e w) := by
 obtain ⟨w0,hw0⟩ : ∃ w0,w0 = w.alloc (.cells #[.int .i64 0, .int .i64 0, .slice none 0 0] 35) := ⟨_,rfl⟩
 have HW : Hid (Below w.heap.size w w0 ∧ RB w.heap.size w0) := by
   rw [hw0]; exact ⟨(Below.refl _ _).alloc (Nat.le_refl _) _,RB.new _ _ _ _⟩
 have HC : Hid (Calls Tryz.prog 58 #[.int .i64 q, .slice go m cg] w0 fun x w' => x = .returned (.int .i64 e) ∧ Below w0.heap.size w0 w') := hC w0 HW.out.1
 have hne : (e != 0) = true := by rw [bne_iff_ne]; exact h0
 clear hC h0
 go_enter Tryz.func17,Tryz.ntmps17
 go_wp2_with fail
 rw [← hw0]
 clear hw0
 refine HC.out.mono ?_
 rintro x w1 ⟨rfl,hb1⟩
 have H1 : Hid (Below w.heap.size w w1 ∧ RB w.heap.size w1) := ⟨bel_up' HW.out.1 hb1,HW.out.2.keep hb1⟩
 clear hb1 HW HC
 obtain ⟨⟨x0,c0⟩,⟨x1,c1⟩,⟨x2,c2⟩,f0,f1,f2⟩ := H1.out.2
 go_wp2
 obtain ⟨w12,hw12⟩ : ∃ w12,w12 = laid w1 w.heap.size 0 0 (.slice none 0 0) := ⟨_,rfl⟩
 have H12 : Hid (CB w.heap.size 0 0 (.slice none 0 0) w12 ∧ Below w.heap.size w w12) := by
   rw [hw12]; exact ⟨laid_cb H1.out.2 _ _ _,laid_below H1.out.1 (Nat.le_refl _) _ _ _⟩
 unfold laid at hw12
 rw [← hw12]
 clear hw12 c0 c1 c2 f0 f1 f2
 obtain ⟨c0,c1,c2⟩ := H12.out.1
 refine bodyPost_ret (v := .tuple #[.agg #[.int .i64 0, .int .i64 0, .slice none 0 0], .int .i64 e]) (by simp [results,Tryz.results17,go_sem,c0,c1,c2]) rfl ?_
 exact ⟨rfl,H12.out.2⟩
set_option maxHeartbeats 4000000 in
set_option maxRecDepth 100000 in
theorem rof_e2 {q n : Int} {go : Option Addr} {m cg : Nat} {w : World} (h : n < 1 ∨ 64 < n)
   (hC : ∀ wx,Below w.heap.size w wx → Calls Tryz.prog 58 #[.int .i64 q, .slice go m cg] wx fun x w' => x = .returned (.int .i64 0) ∧ Below wx.heap.size wx w') :
   Calls Tryz.prog 17 #[.int .i64 q, .int .i64 n, .slice go m cg] w (CEr 4 w) := by
 obtain ⟨w0,hw0⟩ : ∃ w0,w0 = w.alloc (.cells #[.int .i64 0, .int .i64 0, .slice none 0 0] 35) := ⟨_,rfl⟩
 have HW : Hid (Below w.heap.size w w0 ∧ RB w.heap.size w0) := by
   rw [hw0]; exact ⟨(Below.refl _ _).alloc (Nat.le_refl _) _,RB.new _ _ _ _⟩
 have HC : Hid (Calls Tryz.prog 58 #[.int .i64 q, .slice go m cg] w0 fun x w' => x = .returned (.int .i64 0) ∧ Below w0.heap.size w0 w') := hC w0 HW.out.1
 clear hC
 have HR : Hid (∀ w1,Below w.heap.size w w1 ∧ RB w.heap.size w1 → CB w.heap.size 0 0 (.slice none 0 0) (laid w1 w.heap.size 0 0 (.slice none 0 0)) ∧ Below w.heap.size w (laid w1 w.heap.size 0 0 (.slice none 0 0))) := fun w1 h => ⟨laid_cb h.2 _ _ _,laid_below h.1 (Nat.le_refl _) _ _ _⟩
 go_enter Tryz.func17,Tryz.ntmps17
 go_wp2_with fail
 rw [← hw0]
 clear hw0
 refine HC.out.mono ?_
 rintro x w1 ⟨rfl,hb1⟩
 have H1 : Hid (Below w.heap.size w w1 ∧ RB w.heap.size w1) := ⟨bel_up' HW.out.1 hb1,HW.out.2.keep hb1⟩
 clear hb1 HW HC
 obtain ⟨⟨x0,c0⟩,⟨x1,c1⟩,⟨x2,c2⟩,f0,f1,f2⟩ := H1.out.2
 by_cases h1 : n < 1
 · clear h
   go_wp2
   obtain ⟨w12,hw12⟩ : ∃ w12,w12 = laid w1 w.heap.size 0 0 (.slice none 0 0) := ⟨_,rfl⟩
   have H12 : Hid (CB w.heap.size 0 0 (.slice none 0 0) w12 ∧ Below w.heap.size w w12) := by rw [hw12]; exact HR.out w1 H1.out
   unfold laid at hw12
   rw [← hw12]
   clear hw12 c0 c1 c2 f0 f1 f2
   obtain ⟨c0,c1,c2⟩ := H12.out.1
   refine bodyPost_ret (v := .tuple #[.agg #[.int .i64 0, .int .i64 0, .slice none 0 0], .int .i64 4]) (by simp [results,Tryz.results17,go_sem,c0,c1,c2]) rfl ?_
   exact ⟨rfl,H12.out.2⟩
 · have h2 : (64 : Int) < n := by omega
   have h3 : n > 64 := h2
   clear h
   go_wp2
   obtain ⟨w12,hw12⟩ : ∃ w12,w12 = laid w1 w.heap.size 0 0 (.slice none 0 0) := ⟨_,rfl⟩
   have H12 : Hid (CB w.heap.size 0 0 (.slice none 0 0) w12 ∧ Below w.heap.size w w12) := by rw [hw12]; exact HR.out w1 H1.out
   unfold laid at hw12
   rw [← hw12]
   clear hw12 c0 c1 c2 f0 f1 f2
   obtain ⟨c0,c1,c2⟩ := H12.out.1
   refine bodyPost_ret (v := .tuple #[.agg #[.int .i64 0, .int .i64 0, .slice none 0 0], .int .i64 4]) (by simp [results,Tryz.results17,go_sem,c0,c1,c2]) rfl ?_
   exact ⟨rfl,H12.out.2⟩
set_option maxHeartbeats 32000000 in
set_option maxRecDepth 100000 in
theorem rof_any {D : FD} (hD : D ∈ fieldsL) {go : Option Addr} {m n nn cg : Nat} {z : Nat → Int} {w : World} (hG : Arg go m cg z w) (hck : D.chk m z = 0) (hn1 : 1 ≤ n) (hn : n ≤ 64) (hnn : n = nn + 1) :
   Calls Tryz.prog 17 #[.int .i64 D.q, .int .i64 (n : Nat), .slice go m cg] w fun x w' => ∃ qa na o k cc,x = .returned (.tuple #[.agg #[.int .i64 qa, .int .i64 na, .slice o k cc], .int .i64 (ofS D n m (zc m z))]) ∧ ToldR (ofS D n m (zc m z)) D.q nn w.heap.size (ofK D n m (zc m z)) qa na o k cc w' ∧ Below w.heap.size w w' := by
 have F := fld hD
 have hm128 := (chk_zero hck).1
 obtain ⟨c,hc⟩ : ∃ c,c = zc m z := ⟨_,rfl⟩
 rw [← hc]
 have HA : Hid (D ∈ fieldsL ∧ Arg go m cg z w ∧ D.chk m z = 0 ∧ El D c ∧ Bd m c ∧ n = nn + 1 ∧ Sl go m c w) := ⟨hD,hG,hck,by rw [hc]; exact zc_el F hck,by rw [hc]; exact zc_bd m z,hnn,by rw [hc]; exact zc_sl hck hG.sl⟩
 obtain ⟨w0,hw0⟩ : ∃ w0,w0 = w.alloc (.cells #[.int .i64 0, .int .i64 0, .slice none 0 0] 35) := ⟨_,rfl⟩
 have HW : Hid (Below w.heap.size w w0 ∧ RB w.heap.size w0 ∧ RBt w.heap.size w0 ∧ w0.heap.size = w.heap.size + 1) := by
   rw [hw0]; exact ⟨(Below.refl _ _).alloc (Nat.le_refl _) _,RB.new _ _ _ _,RBt.new _ _,by simp⟩
 have HC : Hid (Calls Tryz.prog 58 #[.int .i64 D.q, .slice go m cg] w0 fun x w' => x = .returned (.int .i64 0) ∧ Below w0.heap.size w0 w') := by
   have h := polyMay_any (cap := cg) hD (hG.below HW.out.1).sl (hG.below HW.out.1).lt hG.few
   rw [hck] at h; exact h
 have HR : Hid (∀ w1,Below w.heap.size w w1 ∧ RB w.heap.size w1 → CB w.heap.size 0 0 (.slice none 0 0) (laid w1 w.heap.size 0 0 (.slice none 0 0)) ∧ Below w.heap.size w (laid w1 w.heap.size 0 0 (.slice none 0 0))) := fun w1 h => ⟨laid_cb h.2 _ _ _,laid_below h.1 (Nat.le_refl _) _ _ _⟩
 have h1q : 1 < D.q := one_lt' F
 have g1 : ¬ (n : Int) < 1 := by omega
 have g2 : ¬ (n : Int) > 64 := by omega
 have g3 : ¬ (64 : Int) < (n : Int) := by omega
 clear hD hG hck hc hnn
 go_enter Tryz.func17,Tryz.ntmps17
 go_wp2_with fail
 rw [← hw0]
 clear hw0
 refine HC.out.mono ?_
 rintro x w1 ⟨rfl,hb1⟩
 have H1 : Hid (Below w.heap.size w w1 ∧ RB w.heap.size w1 ∧ RBt w.heap.size w1 ∧ w.heap.size < w1.heap.size) := ⟨bel_up' HW.out.1 hb1,HW.out.2.1.keep hb1,HW.out.2.2.1.keep hb1,by have := hb1.size; have := HW.out.2.2.2; omega⟩
 clear hb1 HC HW
 go_wp2_with fail
 refine (rfield_sl HA.out.1 w1).mono ?_
 rintro e w2 ⟨gm,cm,rfl,hM2,hb2⟩
 unfold rf
 obtain ⟨B,hB⟩ : ∃ B,B = w2.heap.size := ⟨_,rfl⟩
 obtain ⟨w3,hw3⟩ : ∃ w3,w3 = w2.alloc (.cells #[.int .i64 D.q, .int .i64 D.p, .int .i64 D.m, .int .i64 D.gen, .slice (some ⟨gm,0,none⟩) (D.m + 1) cm] 59) := ⟨_,rfl⟩
 have H3 : Hid (Box B D D.gen (.slice (some ⟨gm,0,none⟩) (D.m + 1) cm) w3 ∧ ModAt D (.slice (some ⟨gm,0,none⟩) (D.m + 1) cm) D.md w3 ∧ Below w.heap.size w w3 ∧ B < w3.heap.size ∧ RB w.heap.size w3 ∧ RBt w.heap.size w3 ∧ w.heap.size < w3.heap.size) := by
   have hb3 : Below w2.heap.size w2 w3 := by rw [hw3]; exact (Below.refl _ _).alloc (Nat.le_refl _) _
   have hb13 := bel_up' hb2 hb3
   rw [hB]
   exact ⟨by rw [hw3]; exact box_new D D.gen _ w2,hM2.below hb3,bel_up' H1.out.1 hb13,by rw [hw3]; simp,H1.out.2.1.keep hb13,H1.out.2.2.1.keep hb13,by have := hb13.size; have := H1.out.2.2.2; omega⟩
 clear hM2 hb2
 obtain ⟨M,hM⟩ : ∃ M,M = dgn c m := ⟨_,rfl⟩
 have HTr : Hid (Calls Tryz.prog 59 #[.slice go m cg] w3 fun e w' => ∃ v,e = .returned v ∧ OwnP w3.heap.size v M c w' ∧ Below w3.heap.size w3 w') := by
   rw [hM]
   have hA := HA.out.2.1.below H3.out.2.2.1
   exact rtrim_any (HA.out.2.2.2.2.2.2.below H3.out.2.2.1 HA.out.2.1.lt) hA.le hA.cap hA.nil hA.lt hA.few
 go_wp2_with fail
 rw [← hw3]
 try rw [← hB]
 clear hw3 hB
 refine HTr.out.mono ?_
 rintro e w4 ⟨v4,rfl,hv4,hb4⟩
 obtain ⟨to',tc,hvt,ht1,ht2,ht3,ht4,ht5,ht6⟩ := hv4
 subst hvt
 have hMm : M ≤ m := by rw [hM]; exact dgn_le c m
 have H4 : Hid (Below w3.heap.size w3 w4 ∧ Below w.heap.size w w4 ∧ RB w.heap.size w4 ∧ RBt w.heap.size w4 ∧ w.heap.size < w4.heap.size ∧ M = dgn c m) := ⟨hb4,bel_up' H3.out.2.2.1 hb4,H3.out.2.2.2.2.1.keep hb4,H3.out.2.2.2.2.2.1.keep hb4,by have := hb4.size; have := H3.out.2.2.2.2.2.2; omega,hM⟩
 have HT : Hid (M ≤ tc ∧ tc ≤ 9223372036854775807 ∧ GeB to' w3.heap.size ∧ LtB to' w4.heap.size ∧ (to' = none → tc = 0) ∧ (0 < M → ∃ g,to' = some ⟨g,0,none⟩ ∧ Row g M c w4)) := ⟨ht1,ht2,ht3,ht4,ht5,ht6⟩
 clear ht1 ht2 ht3 ht4 ht5 ht6 hb4 hM HTr
 by_cases hM0 : M = 0
 · have HS : Hid (ofS D n m c = 5) := by
     show _ = _
     unfold ofS
     rw [if_pos (by rw [← H4.out.2.2.2.2.2]; exact hM0)]
   subst hM0
   obtain ⟨⟨x0,c0⟩,⟨x1,c1⟩,⟨x2,c2⟩,f0,f1,f2⟩ := H4.out.2.2.1
   go_wp2
   obtain ⟨w12,hw12⟩ : ∃ w12,w12 = laid w4 w.heap.size 0 0 (.slice none 0 0) := ⟨_,rfl⟩
   have H12 : Hid (CB w.heap.size 0 0 (.slice none 0 0) w12 ∧ Below w.heap.size w w12) := by rw [hw12]; exact HR.out w4 ⟨H4.out.2.1,H4.out.2.2.1⟩
   unfold laid at hw12
   rw [← hw12]
   clear hw12 c0 c1 c2 f0 f1 f2
   obtain ⟨c0,c1,c2⟩ := H12.out.1
   refine bodyPost_ret (v := .tuple #[.agg #[.int .i64 0, .int .i64 0, .slice none 0 0], .int .i64 5]) (by simp [results,Tryz.results17,go_sem,c0,c1,c2]) rfl ?_
   refine ⟨0,0,none,0,0,by (first | (rw [HS.out]; rfl) | rw [HS.out]),fun h => ?_,H12.out.2⟩
   rw [HS.out] at h; cases h
 · obtain ⟨l,hl⟩ : ∃ l,M = l + 1 := ⟨M - 1,by omega⟩
   have hM0b : ((M : Int) == 0) = false := by rw [beq_eq_false_iff_ne]; omega
   obtain ⟨gt,hgt,hrt⟩ := HT.out.2.2.2.2.2 (by omega)
   subst hgt
   have HG : Hid (Row gt M c w4 ∧ M ≤ tc ∧ tc ≤ 9223372036854775807 ∧ M = l + 1 ∧ c l ≠ 0 ∧ Bd M c) := by
     have h6 := H4.out.2.2.2.2.2
     refine ⟨hrt,HT.out.1,HT.out.2.1,hl, ?_,by rw [h6]; exact dgn_bd HA.out.2.2.2.2.1⟩
     have h := dgn_top c m (by rw [← h6]; exact hM0)
     rw [← h6,hl,Nat.add_sub_cancel] at h
     exact h
   clear hrt hM0 hl HT
   obtain ⟨N1,hN1⟩ : ∃ N1,N1 = n + 1 := ⟨_,rfl⟩
   have HN : Hid (((n : Nat) : Int) + 1 = ((N1 : Nat) : Int) ∧ N1 = n + 1) := ⟨by omega,hN1⟩
   have hN1b : 2 ≤ N1 ∧ N1 ≤ 65 := by omega
   have hin : (n : Int) < (N1 : Int) := by omega
   have hi0 : (0 : Int) < (N1 : Int) := by omega
   have hnn0 : (0 : Int) ≤ (n : Int) := by omega
   clear hN1
   obtain ⟨ng1,hng⟩ : ∃ ng1,ng1 = D.ng 1 := ⟨_,rfl⟩
   have HNg : Hid (∀ wx,Calls Tryz.prog 46 #[.agg #[.int .i64 D.q, .int .i64 D.p, .int .i64 D.m, .int .i64 D.gen, .slice (some ⟨gm,0,none⟩) (D.m + 1) cm], .int .i64 1] wx fun e w' => e = .returned (.int .i64 (ng1 : Nat)) ∧ Below wx.heap.size wx w') := fun wx => by
     rw [hng]; exact rneg_nat HA.out.1 D.gen _ 1 h1q wx
   have HNe : Hid (ng1 = D.ng 1) := hng
   clear hng
   have HBx : Hid (∀ wx,Below w3.heap.size w3 wx → Box B D D.gen (.slice (some ⟨gm,0,none⟩) (D.m + 1) cm) wx ∧ ModAt D (.slice (some ⟨gm,0,none⟩) (D.m + 1) cm) D.md wx) := fun wx hb => ⟨H3.out.1.below (B := w3.heap.size) hb H3.out.2.2.2.1,H3.out.2.1.below hb⟩
   go_wp2_with (first | (at_make; refine make_int rfl _ _ rfl _ N1 rfl rfl HN.out.1 (by omega) ?_; intro w5 hown5 hgrow5; have hb5 : Below w4.heap.size w4 w5 := below_grown hgrow5 (Nat.le_refl _) (fun k hk => by simp at hk); obtain ⟨k0,k1,k2,k3,k4⟩ := (HBx.out w5 (bel_up' H4.out.1 hb5)).1))
   have H5 : Hid (Row w4.heap.size N1 pnil w5 ∧ Below w4.heap.size w4 w5) := ⟨row_zeros hown5,hb5⟩
   clear hown5 hgrow5 hb5 k0 k1 k2 k3 k4
   refine (HNg.out w5).mono ?_
   rintro e w6 ⟨rfl,hb6⟩
   obtain ⟨G,hG⟩ : ∃ G,G = w4.heap.size := ⟨_,rfl⟩
   have hr6 : Row G N1 pnil w6 := by rw [hG]; exact H5.out.1.below hb6 H5.out.1.lt
   have hb46 : Below w4.heap.size w4 w6 := bel_up' H5.out.2 hb6
   rw [← hG]
   have c0 := hr6.cell 0 (by omega)
   have f0 := hr6.free 0
   have hr7 := hr6.store 0 ng1 (d := fun j => if j = 0 then ng1 else 0) (fun j _ => rfl)
   have c1 := hr7.cell n (by have := HN.out.2; omega)
   have f1 := hr7.free n
   have hr8 := hr7.store n 1 (d := whl D n) (fun j _ => by show whl D n j = _; unfold whl; rw [HNe.out])
   obtain ⟨w8,hw8⟩ : ∃ w8,w8 = (w6.setCell ⟨G,0,none⟩ (.int .i64 (ng1 : Nat))).setCell ⟨G,n,none⟩ (.int .i64 ((1 : Nat) : Int)) := ⟨_,rfl⟩
   rw [← hw8] at hr8
   have hb48 : Below w4.heap.size w4 w8 := by rw [hw8]; exact (hb46.setCell (show w4.heap.size ≤ G by omega) _).setCell (show w4.heap.size ≤ G by omega) _
   have H8 : Hid (Row G N1 (whl D n) w8 ∧ Below w4.heap.size w4 w8) := ⟨hr8,hb48⟩
   clear hr6 hr7 hr8 hb46 hb48 hb6 hG
   go_upto_region 13 with fail
   rw [show (1 : Int) = ((1 : Nat) : Int) from rfl, ← hw8]
   clear hw8 c0 c1 f0 f1
   obtain ⟨k0,k1,k2,k3,k4⟩ := (HBx.out w8 (bel_up' H4.out.1 H8.out.2)).1
   go_wp2_with fail
   clear k0 k1 k2 k3 k4
   obtain ⟨lr,hlr⟩ : ∃ lr,lr = dgn (divR D c l (D.iv (c l)) (n + 1 - l) (whl D n)) (n + 1) := ⟨_,rfl⟩
   have HDv : Hid (Calls Tryz.prog 60 #[.agg #[.int .i64 D.q, .int .i64 D.p, .int .i64 D.m, .int .i64 D.gen, .slice (some ⟨gm,0,none⟩) (D.m + 1) cm], .slice (some ⟨G,0,none⟩) N1 N1, .slice (some ⟨gt,0,none⟩) M tc] w8 fun e w' => ∃ qo qn qc ro rc,e = .returned (.tuple #[.slice qo qn qc, .slice ro lr rc]) ∧ Below w8.heap.size w8 w') := by
     have hr := HG.out.1.below H8.out.2 HG.out.1.lt
     have hdl : dgn c M = l + 1 := by
       rw [dgn_self (fun _ => by rw [HG.out.2.2.2.1,Nat.add_sub_cancel]; exact HG.out.2.2.2.2.1)]
       exact HG.out.2.2.2.1
     refine (rpdiv_any HA.out.1 D.gen gm cm (by omega) (by omega) (whl_el F n) HA.out.2.2.2.1 (by rw [HN.out.2]; exact whl_bd) HG.out.2.2.2.2.2 (H8.out.1.sl (Nat.le_refl _)) (hr.sl (Nat.le_refl _)) (fun y hy => by cases hy; exact H8.out.1.lt) (fun y hy => by cases hy; exact hr.lt) (Nat.le_refl _) (by omega) (fun e => (by cases e)) HG.out.2.1 HG.out.2.2.1 (fun e => (by cases e)) (HBx.out w8 (bel_up' H4.out.1 H8.out.2)).2 l hdl).mono ?_
     rintro e w' ⟨vq,vr,rfl,h1,h2,h3⟩
     rw [HN.out.2, ← hlr] at h2
     obtain ⟨qo,qc,rfl,_⟩ := h1.open
     obtain ⟨ro,rc,rfl,_⟩ := h2.open
     exact ⟨qo,_,qc,ro,rc,rfl,h3⟩
   have HLr : Hid (lr = dgn (divR D c l (D.iv (c l)) (n + 1 - l) (whl D n)) (n + 1)) := hlr
   have HSr : Hid (ofS D n m c = if lr = 0 then 0 else 3) := by
     show _ = _
     have h6 := H4.out.2.2.2.2.2
     have h7 := HG.out.2.2.2.1
     unfold ofS FD.rst
     rw [← h6,if_neg (by omega),show M - 1 = l by omega, ← hlr]
   have hlrb : lr ≤ 65 := by rw [hlr]; exact Nat.le_trans (dgn_le _ _) (by omega)
   clear hlr
   refine HDv.out.mono ?_
   rintro e w9 ⟨qo,qn,qc,ro,rc,rfl,hb9⟩
   have H9 : Hid (Below w4.heap.size w4 w9 ∧ Below w3.heap.size w3 w9 ∧ Below w.heap.size w w9 ∧ RB w.heap.size w9 ∧ RBt w.heap.size w9 ∧ w.heap.size < w9.heap.size ∧ Row gt M c w9) := by
     have hb := bel_up' H8.out.2 hb9
     exact ⟨hb,bel_up' H4.out.1 hb,bel_up' H4.out.2.1 hb,H4.out.2.2.1.keep hb,H4.out.2.2.2.1.keep hb,by have := hb.size; have := H4.out.2.2.2.2.1; omega,HG.out.1.below hb HG.out.1.lt⟩
   clear hb9 HDv H8 H5
   by_cases hlr0 : lr = 0
   · have HS : Hid (ofS D n m c = 0 ∧ divR D c l (D.iv (c l)) (n + 1 - l) (whl D n) = pnil) := by
       refine ⟨by rw [HSr.out,if_pos hlr0],rest_zero HA.out.1 HA.out.2.2.2.1 (by rw [← HG.out.2.2.2.1]; exact HG.out.2.2.2.2.2) HG.out.2.2.2.2.1 ?_⟩
       rw [← HLr.out]; exact hlr0
     subst hlr0
     clear HSr HLr
     obtain ⟨cb,hcb⟩ : ∃ cb,cb = w9.heap.size := ⟨_,rfl⟩
     obtain ⟨w10,hw10⟩ : ∃ w10,w10 = w9.alloc (.cells #[.int .i64 D.q, .int .i64 (n : Nat), .slice none 0 0] 35) := ⟨_,rfl⟩
     have H10 : Hid (CB cb D.q n (.slice none 0 0) w10 ∧ RBt cb w10 ∧ Below cb w9 w10 ∧ cb < w10.heap.size ∧ cb = w9.heap.size) := by
       rw [hcb,hw10]; exact ⟨CB.new _ _ _ _,RBt.new _ _,(Below.refl _ _).alloc (Nat.le_refl _) _,by simp,rfl⟩
     go_wp2
     rw [← hw10]
     try rw [← hcb]
     clear hw10 hcb
     go_loopw [16] (fun vi wr => ∃ (i : Nat) (v : Value),i ≤ n ∧ vi = .int .i64 (i : Nat) ∧ Hid (CB cb D.q n v wr ∧ RBt cb wr ∧ LLs (cb + 1) v (rl i nn fun k => trw D n k c M) wr ∧ Below cb w9 wr ∧ cb < wr.heap.size)) (fun vi _ => n - (intOf vi).toNat)
     case atStart => exact ⟨0,_,by omega,rfl,H10.out.1,H10.out.2.1,LLs.nil _ _,H10.out.2.2.1,H10.out.2.2.2.1⟩
     case round =>
       obtain ⟨i,v,hi,rfl,HI⟩ := hrel
       rename World => wr
       have hcbr : cb < wr.heap.size := HI.out.2.2.2.2
       have HI9 : Hid (Below w9.heap.size w9 wr ∧ Below w3.heap.size w3 wr) := by
         have h := HI.out.2.2.2.1
         rw [H10.out.2.2.2.2] at h
         exact ⟨h,bel_up' H9.out.2.1 h⟩
       by_cases hlt : i < n
       · have hib : (i : Int) < (n : Int) := by omega
         have hib0 : (0 : Int) ≤ (i : Int) := by omega
         go_wp2_with (at_make; refine make_int rfl _ _ rfl _ n rfl rfl rfl (by omega) ?_; intro wm hownm hgrowm)
         obtain ⟨g1,hg1⟩ : ∃ g1,g1 = wr.heap.size := ⟨_,rfl⟩
         have Hm : Hid (Row g1 n (trw D n i c 0) wm ∧ Below wr.heap.size wr wm ∧ g1 = wr.heap.size) := by
           rw [hg1]; exact ⟨row_zeros hownm,below_grown hgrowm (Nat.le_refl _) (fun k hk => by cases hk),rfl⟩
         rw [← hg1]
         have hg1c : cb < g1 := by omega
         clear hownm hgrowm hg1
         go_loopw [18] (fun vj wx => ∃ j : Nat,j ≤ M ∧ vj = .int .i64 (j : Nat) ∧ Hid (Row g1 n (trw D n i c j) wx ∧ Below wr.heap.size wr wx)) (fun vj _ => M - (intOf vj).toNat)
         case atStart => exact ⟨0,by omega,rfl,Hm.out.1,Hm.out.2.1⟩
         case round =>
           obtain ⟨j,hj,rfl,HJ⟩ := hrel
           rename World => wx
           by_cases hjm : j < M
           · have hjb : (j : Int) < (M : Int) := by omega
             have hjb0 : (0 : Int) ≤ (j : Int) := by omega
             obtain ⟨u,hu⟩ : ∃ u,u = j + i := ⟨_,rfl⟩
             have hui : (j : Int) + (i : Int) = (u : Int) := by omega
             have huw : IntKind.i64.wrap (u : Int) = (u : Int) := wrap_to rfl (by omega)
             obtain ⟨t,ht⟩ : ∃ t,t = u % n := ⟨_,rfl⟩
             have htn : t < n := by rw [ht]; exact Nat.mod_lt _ (by omega)
             have htb : (t : Int) < (n : Int) := by omega
             have htb0 : (0 : Int) ≤ (t : Int) := by omega
             have hrm : (u : Int).tmod (n : Int) = (t : Int) := by rw [Int.tmod_eq_emod_of_nonneg (by omega),ht]; omega
             have hre : (u : Int) % (n : Int) = (t : Int) := by rw [ht]; omega
             have hnz : ¬ n = 0 := by omega
             have hn0 : ¬ (n : Int) = 0 := by omega
             have hn0b : ((n : Int) == 0) = false := by rw [beq_eq_false_iff_ne]; omega
             obtain ⟨p,hp⟩ : ∃ p,p = trw D n i c j t := ⟨_,rfl⟩
             obtain ⟨y,hy⟩ : ∃ y,y = c j := ⟨_,rfl⟩
             obtain ⟨zz,hzz⟩ : ∃ zz,zz = D.ad p y := ⟨_,rfl⟩
             have hbx := (HBx.out wx (bel_up' HI9.out.2 HJ.out.2)).1
             have hrg : Row gt M c wx := H9.out.2.2.2.2.2.2.below (bel_up' HI9.out.1 HJ.out.2) H9.out.2.2.2.2.2.2.lt
             have hco : wx.cell? ⟨g1,t,none⟩ = some (.int .i64 (p : Nat)) := by rw [hp]; exact HJ.out.1.cell t htn
             have hcy : wx.cell? ⟨gt,j,none⟩ = some (.int .i64 (y : Nat)) := by rw [hy]; exact hrg.cell j hjm
             have hfo : wx.frozen? ⟨g1,t,none⟩ = false := HJ.out.1.free t
             have k0 := cell_regrown hbx.c0
             have k1 := cell_regrown hbx.c1
             have k2 := cell_regrown hbx.c2
             have k3 := cell_regrown hbx.c3
             have k4 := cell_regrown hbx.c4
             have k5 := cell_regrown hco
             have k6 := cell_regrown hcy
             have k8 := free_regrown (HJ.out.1.lt) hfo
             have HC2 : Hid (∀ d os,Calls Tryz.prog 61 #[.agg #[.int .i64 D.q, .int .i64 D.p, .int .i64 D.m, .int .i64 D.gen, .slice (some ⟨gm,0,none⟩) (D.m + 1) cm], .int .i64 (p : Nat), .int .i64 (y : Nat)] (grow (redrawn wx d) os) fun e w'' => e = .returned (.int .i64 (zz : Nat)) ∧ ∃ p : Regrown,w'' = grow (redrawn wx p.d) p.os) := by
               intro d os
               have hpq : p < D.q := by rw [hp]; exact trw_el F HA.out.2.2.2.1 j t
               have hyq : y < D.q := by rw [hy]; exact HA.out.2.2.2.1 j
               have h := radd_nat HA.out.1 D.gen (.slice (some ⟨gm,0,none⟩) (D.m + 1) cm) p y hpq hyq (grow (redrawn wx d) os)
               rw [show sumD D.p D.q p y = zz from by rw [hzz]; rfl] at h
               exact Calls.regrown_of h
             have HV : Hid (∀ k,k < n → trw D n i c (j + 1) k = if k = t then zz else trw D n i c j k) := fun k _ => by
               show (if k = (j + i) % n then D.ad (trw D n i c j k) (c j) else trw D n i c j k) = _
               rw [ht,hu]
               by_cases e : k = (j + i) % n
               · rw [if_pos e,if_pos e,hzz,hp,hy,ht,hu,e]
               · rw [if_neg e,if_neg e]
             clear hu ht hp hy hzz hco hfo hbx hcy hrg
             go_wp2
             refine below_tail 21 (by decide +kernel) (by decide +kernel) ?_
             simp only [List.take_succ_cons,List.take_zero,List.drop_succ_cons,List.drop_zero]
             repeat (go_big_quiet_step (first | (go_at_call 61; exact HC2.out _ _)))
             refine wpQuiet_nil ?_
             intro _ hw'
             obtain ⟨⟨dq,osq⟩,hw''⟩ := hw'
             subst hw''
             go_wp2
             go_roundw
             case rel => exact ⟨j + 1,by omega,by go_num,(HJ.out.1.below (below_regrown wx dq osq) HJ.out.1.lt).store t zz HV.out,((bel_up' HJ.out.2 (below_regrown wx dq osq))).setCell (by have := Hm.out.2.2; show wr.heap.size ≤ g1; omega) _⟩
             case measure => simp [intOf]; omega
           · have hjb : ¬ (j : Int) < (M : Int) := by omega
             have hje : j = M := by omega
             subst hje
             have HE : Hid (Elm (.slice (some ⟨g1,0,none⟩) n n) (nn,trw D n i c j) wx ∧ CB cb D.q n v wx ∧ RBt cb wx ∧ Below cb w9 wx ∧ cb < wx.heap.size ∧ LLs (cb + 1) v (rl i nn fun k => trw D n k c j) wx) := by
               have en := HA.out.2.2.2.2.2.1
               have hs := HJ.out.2.size
               refine ⟨⟨g1,n,by rw [en],by show nn + 1 ≤ n; omega,by omega, ?_⟩,HI.out.1.keep HJ.out.2,HI.out.2.1.keep HJ.out.2,HI.out.2.2.2.1.trans (HJ.out.2.mono (by omega)),by omega,HI.out.2.2.1.below HJ.out.2 (Nat.le_refl _)⟩
               show Row g1 (nn + 1) (trw D n i c j) wx
               rw [← en]; exact HJ.out.1
             obtain ⟨lst,hl1,hl2⟩ := HE.out.2.2.2.2.2
             have hll : lst.length ≤ 1000000 := by rw [hl2.1,rl_len]; omega
             have HL : Hid (OwnV (cb + 1) v lst wx ∧ Elms lst (rl i nn fun k => trw D n k c j) wx) := ⟨hl1,hl2⟩
             have hcx : cb < wx.heap.size := HE.out.2.2.2.2.1
             have c2 := HE.out.2.1.c2
             clear hl1 hl2
             go_wp2_with (at_builtin; refine append_sl rfl _ _ rfl (cb + 1) v lst rfl (HL.out.1.below ((Below.refl _ _).alloc (Nat.le_refl _) _) (Nat.le_refl _)) ⟨wx.heap.size,0,none⟩ 1 (.slice (some ⟨g1,0,none⟩) n n) rfl rfl (by rw [cell_of_row _ _ _ _ _ (0,0) (two_new _)]; rfl) hll (by simp; omega) ?_; intro v' w6 hown6 hg6; obtain ⟨ao',cap',ev',_⟩ := hown6.open; subst ev'; have hal : Below wx.heap.size wx (wx.alloc (.cells #[.slice (some ⟨g1,0,none⟩) n n] 22)) := (Below.refl _ _).alloc (Nat.le_refl _) _; have ho := HL.out.1.below hal (Nat.le_refl _); have hbl : ∀ k,v.ownBlock = some k → cb + 1 ≤ k := (fun k hk => ho.open_ge k hk); have e6 : w6.heap[cb]? = wx.heap[cb]? := ((hg6.block cb (by simp; omega) (fun e => by have := hbl cb e.symm; omega)).trans (hal.block cb hcx)); have c6 := (cyb_other HE.out.2.1 e6).c2; have f6 := cyt_free (cyt_other HE.out.2.2.1 e6) 2)
             have HN : Hid (∀ u,u = Value.slice ao' (lst ++ [Value.slice (some ⟨g1,0,none⟩) n n]).length cap' → CB cb D.q n u (w6.setCell ⟨cb,2,none⟩ u) ∧ RBt cb (w6.setCell ⟨cb,2,none⟩ u) ∧ LLs (cb + 1) u (rl (i + 1) nn fun k => trw D n k c j) (w6.setCell ⟨cb,2,none⟩ u) ∧ Below cb w9 (w6.setCell ⟨cb,2,none⟩ u) ∧ cb < (w6.setCell ⟨cb,2,none⟩ u).heap.size) := fun u hu => by
               have hb6 : Below (cb + 1) wx w6 := ((Below.refl _ _).alloc (by omega) _).grown hg6 (by simp; omega) (fun i hi => hbl i hi)
               have hR6 := cyt_other HE.out.2.2.1 e6
               have hP := cyb_put (cyb_other HE.out.2.1 e6) hR6 u
               refine ⟨hP.1,hP.2, ?_,(HE.out.2.2.2.1.trans (hb6.mono (by omega))).setCell (Nat.le_refl _) _,by simp [World.setCell]; have := hb6.size; omega⟩
               have hL6 : LLs (cb + 1) u (rl (i + 1) nn fun k => trw D n k c j) w6 := by
                 refine ⟨_,by rw [hu]; exact hown6, ?_⟩
                 have h := ((HL.out.2.below hal (Nat.le_refl _)).snoc (HE.out.1.below hal (Nat.le_refl _))).grown ho hg6
                 rw [rl_succ]; exact h
               exact lls_cyb hL6 hR6
             clear hown6 hg6 ho hal hbl e6 c6 f6 c2
             go_roundw
             case rel => exact ⟨i + 1,_,by omega,by go_num,HN.out _ (by simp)⟩
             case measure => simp [intOf]; omega
       · have hib : ¬ (i : Int) < (n : Int) := by omega
         have hie : i = n := by omega
         have HRr : Hid (LLs (cb + 1) v (rl n nn fun k => trw D n k c M) wr ∧ Below w.heap.size w wr ∧ RB w.heap.size wr ∧ RBt w.heap.size wr ∧ w.heap.size ≤ wr.heap.size) := by
           have hb := bel_up' H9.out.2.2.1 HI9.out.1
           rw [← hie]
           exact ⟨by rw [hie]; rw [hie] at HI; exact HI.out.2.2.1,hb,H9.out.2.2.2.1.keep HI9.out.1,H9.out.2.2.2.2.1.keep HI9.out.1,hb.size⟩
         obtain ⟨c0,c1,c2⟩ := HI.out.1
         clear hie
         obtain ⟨lo,lc,hv⟩ := HRr.out.1.slc
         rw [rl_len] at hv
         subst hv
         have HMd : Hid (Calls Tryz.prog 62 #[.agg #[.int .i64 D.q, .int .i64 (n : Nat), .slice lo n lc]] wr fun e w' => ∃ k R ro rc,e = .returned (.agg #[.int .i64 D.q, .int .i64 (n : Nat), .slice ro k rc]) ∧ LLs wr.heap.size (.slice ro k rc) (rl k nn R) w' ∧ Red D n n (fun k => trw D n k c M) k R ∧ Below wr.heap.size wr w') :=
           made_any HA.out.1 (n1 := nn) (by omega) hn HA.out.2.2.2.2.2.1 (fun i _ => ⟨trw_el F HA.out.2.2.2.1 M,by rw [← HA.out.2.2.2.2.2.1]; exact trw_bd hn1 M⟩) HRr.out.1.matR'.1
         go_wp2_with fail
         refine HMd.out.mono ?_
         rintro e w6 ⟨k,R,ro,rc,rfl,hl6,hr6,hb6⟩
         have H6 : Hid (LLs wr.heap.size (.slice ro k rc) (rl k nn R) w6 ∧ Red D n n (fun k => trw D n k c M) k R ∧ Below w.heap.size w w6 ∧ RB w.heap.size w6 ∧ RBt w.heap.size w6 ∧ w.heap.size ≤ wr.heap.size) := ⟨hl6,hr6,bel_up' HRr.out.2.1 hb6,HRr.out.2.2.1.keep hb6,HRr.out.2.2.2.1.keep hb6,HRr.out.2.2.2.2⟩
         clear hl6 hr6 hb6 c0 c1 c2 HMd
         obtain ⟨⟨x0,c0⟩,⟨x1,c1⟩,⟨x2,c2⟩,f0,f1,f2⟩ := H6.out.2.2.2.1
         go_wp2
         obtain ⟨w7,hw7⟩ : ∃ w7,w7 = laid w6 w.heap.size D.q n (.slice ro k rc) := ⟨_,rfl⟩
         have H7 : Hid (CB w.heap.size D.q n (.slice ro k rc) w7 ∧ LLs w.heap.size (.slice ro k rc) (rl k nn R) w7 ∧ Below w.heap.size w w7) := by
           rw [hw7]; exact ⟨laid_cb H6.out.2.2.2.1 _ _ _,(H6.out.1.laid H6.out.2.2.2.2.1 _ _ _).mono H6.out.2.2.2.2.2,laid_below H6.out.2.2.1 (Nat.le_refl _) _ _ _⟩
         unfold laid at hw7
         rw [← hw7]
         clear hw7 c0 c1 c2 f0 f1 f2
         obtain ⟨c0,c1,c2⟩ := H7.out.1
         refine bodyPost_ret (v := .tuple #[.agg #[.int .i64 D.q, .int .i64 (n : Nat), .slice ro k rc], .int .i64 0]) (by simp [results,Tryz.results17,go_sem,c0,c1,c2]) rfl ?_
         refine ⟨_,_,_,_,_,by (first | (rw [HS.out.1]; rfl) | rw [HS.out.1]),fun _ => ⟨rfl,by rw [HA.out.2.2.2.2.2.1],by have := H6.out.2.1.le; omega,R,H7.out.2.1, ?_⟩,H7.out.2.2⟩
         unfold ofK
         rw [← H4.out.2.2.2.2.2]
         exact H6.out.2.1
   · have HS : Hid (ofS D n m c = 3) := by show _ = _; rw [HSr.out,if_neg hlr0]
     have hl1 : (0 : Int) < (lr : Int) := by omega
     have hl2 : (lr : Int) > 0 := hl1
     clear hlr0
     obtain ⟨⟨x0,c0⟩,⟨x1,c1⟩,⟨x2,c2⟩,f0,f1,f2⟩ := H9.out.2.2.2.1
     go_wp2
     obtain ⟨w12,hw12⟩ : ∃ w12,w12 = laid w9 w.heap.size 0 0 (.slice none 0 0) := ⟨_,rfl⟩
     have H12 : Hid (CB w.heap.size 0 0 (.slice none 0 0) w12 ∧ Below w.heap.size w w12) := by rw [hw12]; exact HR.out w9 ⟨H9.out.2.2.1,H9.out.2.2.2.1⟩
     unfold laid at hw12
     rw [← hw12]
     clear hw12 c0 c1 c2 f0 f1 f2
     obtain ⟨c0,c1,c2⟩ := H12.out.1
     refine bodyPost_ret (v := .tuple #[.agg #[.int .i64 0, .int .i64 0, .slice none 0 0], .int .i64 3]) (by simp [results,Tryz.results17,go_sem,c0,c1,c2]) rfl ?_
     refine ⟨0,0,none,0,0,by (first | (rw [HS.out]; rfl) | rw [HS.out]),fun h => ?_,H12.out.2⟩
     rw [HS.out] at h; cases h
end Go.Proofs.YtppggchhkckobaaGreat
