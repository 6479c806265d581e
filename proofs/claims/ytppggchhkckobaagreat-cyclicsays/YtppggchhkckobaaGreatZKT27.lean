/- Texts of ours, one behind the other: KT27. -/
import Derived.Test.YtppggchhkckobaaGreatZKT25
import Derived.Test.YtppggchhkckobaaGreatZKT8
import Derived.Test.YtppggchhkckobaaGreatZI27
import Derived.Test.YtppggchhkckobaaGreatZW13
import Derived.Test.YtppggchhkckobaaGreatZX15
import Derived.Test.YtppggchhkckobaaGreatZR17
import Derived.Test.YtppggchhkckobaaGreatZV2
import Derived.Test.YtppggchhkckobaaGreatZX18
namespace Go.Proofs.YtppggchhkckobaaGreat
open Go.RowKit Go.Sort
set_option maxHeartbeats 2000000 in
set_option maxRecDepth 100000 in
theorem rgen_e1 {q n e : Int} {zo : Option Addr} {m zc : Nat} {w : World} (h0 : e ≠ 0)
   (hC : Calls Tryz.prog 43 #[.int .i64 q, .int .i64 n, .slice zo m zc] w fun x w' => x = .returned (.tuple #[.slice none 0 0, .int .i64 e]) ∧ Below w.heap.size w w') :
   Calls Tryz.prog 11 #[.int .i64 q, .int .i64 n, .slice zo m zc] w fun x w' => x = .returned (.tuple #[.slice none 0 0, .int .i64 e]) ∧ Below w.heap.size w w' := by
 have HC : Hid (Calls Tryz.prog 43 #[.int .i64 q, .int .i64 n, .slice zo m zc] w fun x w' => x = .returned (.tuple #[.slice none 0 0, .int .i64 e]) ∧ Below w.heap.size w w') := hC
 clear hC
 go_enter Tryz.func11,Tryz.ntmps11
 go_wp2_with fail
 refine HC.out.mono ?_
 rintro x w1 ⟨rfl,hb⟩
 have HB : Hid (Below w.heap.size w w1) := hb
 have hne : (e != 0) = true := by rw [bne_iff_ne]; exact h0
 clear hb
 go_wp2
 go_ret2
 exact ⟨rfl,HB.out⟩
def GnS (B : Nat) (G : FD) (gm cm b o x : Nat) (w : World) : Prop :=
 w.cell? ⟨B,0,none⟩ = some (.int .i64 G.q) ∧ w.cell? ⟨B,1,none⟩ = some (.int .i64 G.p) ∧ w.cell? ⟨B,2,none⟩ = some (.int .i64 G.m) ∧ w.cell? ⟨B,3,none⟩ = some (.int .i64 G.gen) ∧ w.cell? ⟨B,4,none⟩ = some (.slice (some ⟨gm,0,none⟩) (G.m + 1) cm) ∧ w.cell? ⟨b,o,none⟩ = some (.int .i64 (x : Nat))
def PnL (base : Nat) (v : Value) (n : Nat) (c : Nat → Nat) (w : World) : Prop := ∃ g cap,v = .slice (some ⟨g,0,none⟩) n cap ∧ Row g n c w ∧ base ≤ g ∧ n ≤ cap ∧ cap ≤ 9223372036854775807
theorem PnL.of {base n : Nat} {v : Value} {c : Nat → Nat} {w : World} (h : OwnP base v n c w) (hn : 0 < n) : PnL base v n c w := by
 obtain ⟨ao,cap,rfl,h1,h2,h3,h4,h5,h6⟩ := h
 obtain ⟨g,rfl,hr⟩ := h6 hn
 exact ⟨g,cap,rfl,hr,h3 _ rfl,h1,h2⟩
theorem PnL.mono {base base' n : Nat} {v : Value} {c : Nat → Nat} {w : World} (h : PnL base v n c w) (hb : base' ≤ base) : PnL base' v n c w := by
 obtain ⟨g,cap,h1,h2,h3,h4⟩ := h
 exact ⟨g,cap,h1,h2,by omega,h4⟩
theorem PnL.below {base n : Nat} {v : Value} {c : Nat → Nat} {w w' : World} (h : PnL base v n c w) (hb : Below w.heap.size w w') : PnL base v n c w' := by
 obtain ⟨g,cap,h1,h2,h3,h4⟩ := h
 exact ⟨g,cap,h1,h2.below hb h2.lt,h3,h4⟩
set_option maxHeartbeats 32000000 in
set_option maxRecDepth 100000 in
theorem rgen_ok {E G : FD} (hE : E ∈ fieldsL) {n m zc : Nat} {zo : Option Addr} {S : List Nat} {w : World} (hW : WR E n G) (hO : Ord E.q n) (hn1 : 1 ≤ n) (hn : n ≤ 64) (hnd : S.Nodup) (hSn : ∀ k ∈ S, k < n) (hcl : Clq E.q n S)
   (hC : Calls Tryz.prog 43 #[.int .i64 E.q, .int .i64 (n : Nat), .slice zo m zc] w fun x w' => ∃ v,x = .returned (.tuple #[v, .int .i64 0]) ∧ OwnI w.heap.size v (nzl S) w' ∧ Below w.heap.size w w') :
   Calls Tryz.prog 11 #[.int .i64 E.q, .int .i64 (n : Nat), .slice zo m zc] w fun x w' => ∃ ao ca,x = .returned (.tuple #[.slice ao (S.length + 1 : Nat) ca, .int .i64 0]) ∧ Arg ao (S.length + 1) ca (fun k => ((gnr G E (G.xp G.gen ((G.q - 1) / n)) S k : Nat) : Int)) w' ∧ Below w.heap.size w w' := by
 have hG := hW.fld
 have HC : Hid (Calls Tryz.prog 43 #[.int .i64 E.q, .int .i64 (n : Nat), .slice zo m zc] w fun x w' => ∃ v,x = .returned (.tuple #[v, .int .i64 0]) ∧ OwnI w.heap.size v (nzl S) w' ∧ Below w.heap.size w w') := hC
 have hqE := (good hE).q64
 have hq2 := (fld hE).q2
 have hqG := (good hG).q64
 have hqG2 := (fld hG).q2
 have hgen := gen_ne hG
 obtain ⟨b,hb⟩ : ∃ b,b = G.xp G.gen ((G.q - 1) / n) := ⟨_,rfl⟩
 rw [← hb]
 have HZ : Hid ((E ∈ fieldsL ∧ G ∈ fieldsL ∧ WR E n G ∧ Ord E.q n) ∧ (S.Nodup ∧ (∀ k ∈ S,k < n) ∧ Clq E.q n S) ∧ Rt G b n ∧ b < G.q ∧ b = G.xp G.gen ((G.q - 1) / n) ∧ G.gen < G.q) := by
   refine ⟨⟨hE,hG,hW,hO⟩,⟨hnd,hSn,hcl⟩, ?_,by rw [hb]; exact xp_lt (fld hG) _ _,hb,hgen.1⟩
   rw [hb, ← pw_xp hG hgen.2]
   exact root_rt hG hW.root
 obtain ⟨N,hN⟩ : ∃ N,N = S.length := ⟨_,rfl⟩
 rw [← hN]
 have hN64 : N ≤ 64 := by rw [hN]; exact Nat.le_trans (nd_len hnd hSn) hn
 obtain ⟨q,hq⟩ : ∃ q,q = E.q := ⟨_,rfl⟩
 obtain ⟨i0,hi0q,hi0l⟩ := hW.least
 rw [← hq] at hqE hq2 HC hi0q hi0l ⊢
 have hi06 : i0 < 7 := pow_small hq2 (by rw [← hi0q]; exact hqG)
 have HQ : Hid (q = E.q ∧ G.q = q ^ (i0 + 1) ∧ (∀ j,j < i0 → (q ^ (j + 1) - 1) % n ≠ 0) ∧ (G.q - 1) % n = 0 ∧ N = S.length) := ⟨hq,hi0q,hi0l,hW.root,hN⟩
 clear hE hG hW hO hnd hSn hcl hC hgen hb hq hi0q hi0l hN
 go_enter Tryz.func11,Tryz.ntmps11
 go_wp2_with fail
 refine HC.out.mono ?_
 rintro x w1 ⟨v,rfl,hv1,hb1⟩
 obtain ⟨lo,lc,hvs,hA1⟩ := hv1.argOf (n := N) (by unfold nzl; rw [List.length_map,HQ.out.2.2.2.2])
 subst hvs
 have H1 : Hid (SlZ lo N (fun i => ((S.getD i 0 : Nat) : Int)) w1 ∧ LtB lo w1.heap.size ∧ Below w.heap.size w w1) := by
   refine ⟨fun i hi => ?_,hA1.lt,hb1⟩
   obtain ⟨b',off,e,c⟩ := hA1.sl i hi
   refine ⟨b',off,e,c.trans ?_⟩
   show some (Value.int .i64 ((nzl S).getD i 0)) = some (Value.int .i64 ((S.getD i 0 : Nat) : Int))
   unfold nzl
   rw [List.getD_eq_getElem?_getD,List.getD_eq_getElem?_getD,List.getElem?_map,List.getElem?_eq_getElem (by rw [← HQ.out.2.2.2.2]; exact hi)]
   rfl
 clear hv1 hb1 hA1 HC
 go_wp2
 go_loopw [10] (fun vs wx => ∃ i s : Nat,vs = .int .i64 (s : Nat) ∧ s ≤ 64 ∧ i ≤ i0 ∧ wx = w1 ∧ Hid (s = q ^ (i + 1))) (fun vs _ => 4097 - (intOf vs).toNat)
 case atStart => exact ⟨0,q,rfl,hqE,by omega,rfl,(by rw [Nat.pow_one] : q = q ^ (0 + 1))⟩
 case round =>
   obtain ⟨i,s,rfl,hs,hii,hwx,HI⟩ := hrel
   have hwx := hwx.symm
   subst hwx
   have hsi : (s : Int) ≤ 64 := by omega
   have hsi2 : ¬ (s : Int) > 64 := by omega
   have hsi3 : ¬ (64 : Int) < (s : Int) := by omega
   have hs1 : 1 ≤ s := by rw [HI.out]; exact Nat.pow_pos (by omega)
   obtain ⟨t,ht⟩ : ∃ t,t = s - 1 := ⟨_,rfl⟩
   have hti : (s : Int) - 1 = (t : Int) := by omega
   obtain ⟨r,hr⟩ : ∃ r,r = t % n := ⟨_,rfl⟩
   have hn0 : ¬ (n : Int) = 0 := by omega
   have hnz : ¬ n = 0 := by omega
   have hn0b : ((n : Int) == 0) = false := by rw [beq_eq_false_iff_ne]; omega
   have hrm : (t : Int).tmod (n : Int) = (r : Int) := by rw [Int.tmod_eq_emod_of_nonneg (by omega),hr]; omega
   have hre : (t : Int) % (n : Int) = (r : Int) := by rw [hr]; omega
   have hrb : r ≤ 64 := by rw [hr]; exact Nat.le_trans (Nat.mod_le _ _) (by omega)
   have htw : IntKind.i64.wrap (t : Int) = (t : Int) := wrap_to rfl (by omega)
   have HT : Hid (t = s - 1 ∧ r = t % n) := ⟨ht,hr⟩
   clear ht hr
   by_cases hie : i = i0
   · have HSG : Hid (s = G.q ∧ t = G.q - 1) := by
       have e : s = G.q := by rw [HI.out,HQ.out.2.1,hie]
       exact ⟨e,by rw [HT.out.1,e]⟩
     have hr0 : r = 0 := by rw [HT.out.2,HSG.out.2]; exact HQ.out.2.2.2.1
     subst hr0
     have HFd : Hid (Calls Tryz.prog 33 #[.int .i64 (s : Nat)] w1 fun e w' => ∃ gm cm,e = .returned (.tuple #[rf G.q G.p G.m G.gen (.slice (some ⟨gm,0,none⟩) (G.m + 1) cm), .int .i64 0]) ∧ ModAt G (.slice (some ⟨gm,0,none⟩) (G.m + 1) cm) G.md w' ∧ Below w1.heap.size w1 w') := by
       rw [HSG.out.1]; exact rfield_sl HZ.out.1.2.1 w1
     clear hie hii
     go_wp2_with fail
     refine HFd.out.mono ?_
     rintro e w2 ⟨gm,cm,rfl,hM2,hb2⟩
     unfold rf
     obtain ⟨B,hB⟩ : ∃ B,B = w2.heap.size := ⟨_,rfl⟩
     obtain ⟨w3,hw3⟩ : ∃ w3,w3 = w2.alloc (.cells #[.int .i64 G.q, .int .i64 G.p, .int .i64 G.m, .int .i64 G.gen, .slice (some ⟨gm,0,none⟩) (G.m + 1) cm] 59) := ⟨_,rfl⟩
     have H3 : Hid (Box B G G.gen (.slice (some ⟨gm,0,none⟩) (G.m + 1) cm) w3 ∧ ModAt G (.slice (some ⟨gm,0,none⟩) (G.m + 1) cm) G.md w3 ∧ Below w1.heap.size w1 w3 ∧ B < w3.heap.size) := by
       have hb3 : Below w2.heap.size w2 w3 := by rw [hw3]; exact (Below.refl _ _).alloc (Nat.le_refl _) _
       rw [hB]
       exact ⟨by rw [hw3]; exact box_new G G.gen _ w2,hM2.below hb3,bel_up' hb2 hb3,by rw [hw3]; simp⟩
     have HBx : Hid (∀ wx,Below w3.heap.size w3 wx → Box B G G.gen (.slice (some ⟨gm,0,none⟩) (G.m + 1) cm) wx ∧ ModAt G (.slice (some ⟨gm,0,none⟩) (G.m + 1) cm) G.md wx) := fun wx hb => ⟨H3.out.1.below (B := w3.heap.size) hb H3.out.2.2.2,H3.out.2.1.below hb⟩
     have HPw : Hid (∀ wx,Below w3.heap.size w3 wx → ∀ a k : Nat,a < G.q → k ≤ 1000 → Calls Tryz.prog 44 #[.agg #[.int .i64 G.q, .int .i64 G.p, .int .i64 G.m, .int .i64 G.gen, .slice (some ⟨gm,0,none⟩) (G.m + 1) cm], .int .i64 (a : Nat), .int .i64 (k : Nat)] wx fun e w' => e = .returned (.int .i64 (G.xp a k : Nat)) ∧ Below wx.heap.size wx w') := fun wx hb a k ha hk => by
       refine (rpow_any HZ.out.1.2.1 G.gen a k (by omega) (by omega) (HBx.out wx hb).2).mono ?_
       rintro e w' ⟨rfl,hb'⟩
       exact ⟨by rw [pn_eq ha k,pn_xp HZ.out.1.2.1 ha k],hb'⟩
     obtain ⟨d,hd⟩ : ∃ d,d = t / n := ⟨_,rfl⟩
     have hdb : d ≤ 64 := by rw [hd]; exact Nat.le_trans (Nat.div_le_self _ _) (by omega)
     have htd : (t : Int).tdiv (n : Int) = (d : Int) := by rw [Int.tdiv_eq_ediv_of_nonneg (by omega),hd]; omega
     have hdv : (t : Int) / (n : Int) = (d : Int) := by rw [hd]; omega
     have hdw : IntKind.i64.wrap (d : Int) = (d : Int) := wrap_to rfl (by omega)
     have HD : Hid (G.xp G.gen d = b) := by show _ = _; rw [HZ.out.2.2.2.2.1,hd,HSG.out.2]
     clear hM2 hb2 HFd hd
     go_upto_region 10 with fail
     rw [← hw3]
     try rw [← hB]
     clear hw3 hB
     have hi0 : (0 : Int) ≤ 0 := by omega
     have hib : (0 : Int) < 1 := by omega
     obtain ⟨k0,k1',k2,k3,k4⟩ := H3.out.1
     have hS0 : GnS B G gm cm B 0 G.q w3.drew := ⟨k0,k1',k2,k3,k4,k0⟩
     have HSk : Hid (∀ wx,Below w3.heap.size w3 wx → GnS B G gm cm B 0 G.q wx) := fun wx hb => by
       obtain ⟨c0,c1,c2,c3,c4⟩ := (HBx.out wx hb).1
       exact ⟨c0,c1,c2,c3,c4,c0⟩
     clear k0 k1' k2 k3 k4
     refine wp_region_noPanic ?_
     refine wp_region_L (S := GnS B G gm cm B 0 G.q) [] (by kernel_rfl) ?_
     refine wpAnyL_take (i := 0) (v := ?_) (by rw [List.getElem?_toArray]; rfl) (by decide +kernel) (by decide +kernel) (by decide +kernel) (by decide +kernel) (by decide +kernel) (fun _ _ _ h => h) hS0 (Or.inl ⟨by rfl, ?_⟩) ?_
     rotate_left
     · intro wz hSz; obtain ⟨z0,z1,z2,z3,z4,z5⟩ := hSz; go_simp; first | done | with_reducible rfl | (simp only [hnz,if_false]; first | done | with_reducible rfl) | (simp only [hi0,hib,and_self,if_true,Int.toNat_natCast]; first | done | with_reducible rfl) | (simp [hi0,hib]; first | done | with_reducible rfl)
     try simp only [Act.put,List.setIfInBounds_toArray,List.set_cons_zero,List.set_cons_succ]
     refine wpAnyL_take (i := 1) (v := ?_) (by rw [List.getElem?_toArray]; rfl) (by decide +kernel) (by decide +kernel) (by decide +kernel) (by decide +kernel) (by decide +kernel) (fun _ _ _ h => h) hS0 (Or.inl ⟨by rfl, ?_⟩) ?_
     rotate_left
     · intro wz hSz; obtain ⟨z0,z1,z2,z3,z4,z5⟩ := hSz; go_simp; first | done | with_reducible rfl | (simp only [hnz,if_false]; first | done | with_reducible rfl) | (simp only [hi0,hib,and_self,if_true,Int.toNat_natCast]; first | done | with_reducible rfl) | (simp [hi0,hib]; first | done | with_reducible rfl)
     try simp only [Act.put,List.setIfInBounds_toArray,List.set_cons_zero,List.set_cons_succ]
     refine wpAnyL_take (i := 2) (v := ?_) (by rw [List.getElem?_toArray]; rfl) (by decide +kernel) (by decide +kernel) (by decide +kernel) (by decide +kernel) (by decide +kernel) (fun _ _ _ h => h) hS0 (Or.inl ⟨by rfl, ?_⟩) ?_
     rotate_left
     · intro wz hSz; obtain ⟨z0,z1,z2,z3,z4,z5⟩ := hSz; go_simp; first | done | with_reducible rfl | (simp only [hnz,if_false]; first | done | with_reducible rfl) | (simp only [hi0,hib,and_self,if_true,Int.toNat_natCast]; first | done | with_reducible rfl) | (simp [hi0,hib]; first | done | with_reducible rfl)
     try simp only [Act.put,List.setIfInBounds_toArray,List.set_cons_zero,List.set_cons_succ]
     refine wpAnyL_take (i := 3) (v := ?_) (by rw [List.getElem?_toArray]; rfl) (by decide +kernel) (by decide +kernel) (by decide +kernel) (by decide +kernel) (by decide +kernel) (fun _ _ _ h => h) hS0 (Or.inl ⟨by rfl, ?_⟩) ?_
     rotate_left
     · intro wz hSz; obtain ⟨z0,z1,z2,z3,z4,z5⟩ := hSz; go_simp; first | done | with_reducible rfl | (simp only [hnz,if_false]; first | done | with_reducible rfl) | (simp only [hi0,hib,and_self,if_true,Int.toNat_natCast]; first | done | with_reducible rfl) | (simp [hi0,hib]; first | done | with_reducible rfl)
     try simp only [Act.put,List.setIfInBounds_toArray,List.set_cons_zero,List.set_cons_succ]
     refine wpAnyL_take (i := 4) (v := ?_) (by rw [List.getElem?_toArray]; rfl) (by decide +kernel) (by decide +kernel) (by decide +kernel) (by decide +kernel) (by decide +kernel) (fun _ _ _ h => h) hS0 (Or.inl ⟨by rfl, ?_⟩) ?_
     rotate_left
     · intro wz hSz; obtain ⟨z0,z1,z2,z3,z4,z5⟩ := hSz; go_simp; first | done | with_reducible rfl | (simp only [hnz,if_false]; first | done | with_reducible rfl) | (simp only [hi0,hib,and_self,if_true,Int.toNat_natCast]; first | done | with_reducible rfl) | (simp [hi0,hib]; first | done | with_reducible rfl)
     try simp only [Act.put,List.setIfInBounds_toArray,List.set_cons_zero,List.set_cons_succ]
     refine wpAnyL_take (i := 5) (v := ?_) (by rw [List.getElem?_toArray]; rfl) (by decide +kernel) (by decide +kernel) (by decide +kernel) (by decide +kernel) (by decide +kernel) (fun _ _ _ h => h) hS0 (Or.inl ⟨by rfl, ?_⟩) ?_
     rotate_left
     · intro wz hSz; obtain ⟨z0,z1,z2,z3,z4,z5⟩ := hSz; go_simp; first | done | with_reducible rfl | (simp only [hnz,if_false]; first | done | with_reducible rfl) | (simp only [hi0,hib,and_self,if_true,Int.toNat_natCast]; first | done | with_reducible rfl) | (simp [hi0,hib]; first | done | with_reducible rfl)
     try simp only [Act.put,List.setIfInBounds_toArray,List.set_cons_zero,List.set_cons_succ]
     refine wpAnyL_take (i := 6) (v := ?_) (by rw [List.getElem?_toArray]; rfl) (by decide +kernel) (by decide +kernel) (by decide +kernel) (by decide +kernel) (by decide +kernel) (fun _ _ _ h => h) hS0 (Or.inl ⟨by rfl, ?_⟩) ?_
     rotate_left
     · intro wz hSz; obtain ⟨z0,z1,z2,z3,z4,z5⟩ := hSz; go_simp; first | done | with_reducible rfl | (simp only [hnz,if_false]; first | done | with_reducible rfl) | (simp only [hi0,hib,and_self,if_true,Int.toNat_natCast]; first | done | with_reducible rfl) | (simp [hi0,hib]; first | done | with_reducible rfl)
     try simp only [Act.put,List.setIfInBounds_toArray,List.set_cons_zero,List.set_cons_succ]
     refine wpAnyL_one (i := 7) (by kernel_rfl) (by rw [List.getElem?_toArray]; rfl) (fun K hK => ?_)
     have HK : Hid _ := hK
     clear hK
     go_simp
     refine (HPw.out w3.drew (Below.refl _ _).drew G.gen d HZ.out.2.2.2.2.2 (by omega)).mono ?_
     rw [HD.out]
     rintro e w4 ⟨rfl,hb4⟩
     replace hb4 : Below w3.heap.size w3 w4 := ⟨hb4.os,hb4.tape,hb4.output,hb4.size,hb4.block⟩
     have hS4 := HSk.out w4 hb4
     have H4 : Hid (Below w3.heap.size w3 w4) := hb4
     clear hb4
     refine HK.out _ _ (fun _ => hS4) ?_
     clear HK K
     try simp only [Act.put,List.setIfInBounds_toArray,List.set_cons_zero,List.set_cons_succ]
     refine wpAnyL_one (i := 8) (by kernel_rfl) (by rw [List.getElem?_toArray]; rfl) (fun K hK => ?_)
     have HK : Hid _ := hK
     clear hK
     go_simp
     refine HK.out _ _ (fun _ => hS4) ?_
     clear HK K
     try simp only [Act.put,List.setIfInBounds_toArray,List.set_cons_zero,List.set_cons_succ]
     refine wpAnyL_done (by kernel_rfl) (NoPanic.normal ?_)
     clear hS0 hS4 HSk HD hi0 hib
     obtain ⟨w5,hw5⟩ : ∃ w5,w5 = w4.alloc (.cells #[.int .i64 1] 3) := ⟨_,rfl⟩
     obtain ⟨g5,hg5⟩ : ∃ g5,g5 = w4.heap.size := ⟨_,rfl⟩
     obtain ⟨c,hc⟩ : ∃ c : Nat → Nat,c = fun i => G.xp b (S.getD i 0) := ⟨_,rfl⟩
     have H5 : Hid (Below w3.heap.size w3 w5 ∧ PnL w3.heap.size (.slice (some ⟨g5,0,none⟩) 1 1) 1 (nal G c 0) w5) := by
       have hb5 : Below w4.heap.size w4 w5 := by rw [hw5]; exact (Below.refl _ _).alloc (Nat.le_refl _) _
       refine ⟨bel_up' H4.out hb5,g5,1,rfl,⟨1,fun _ => .int .i64 1,⟨#[.int .i64 1], ?_,rfl,fun k hk => ?_⟩,Nat.le_refl _,fun k hk => ?_⟩,by rw [hg5]; exact H4.out.size,Nat.le_refl _,by omega⟩
       · rw [hw5,hg5]; exact two_new _
       · have : k = 0 := by omega
         subst this; rfl
       · have : k = 0 := by omega
         subst this; rfl
     have HS : Hid (c = (fun i => G.xp b (S.getD i 0)) ∧ (∀ i,i < N → c i < G.q) ∧ ∀ i,i < N → S.getD i 0 < n) := by
       refine ⟨hc,fun i _ => by rw [hc]; exact xp_lt (fld HZ.out.1.2.1) _ _,fun i hi => ?_⟩
       have hm' : S.getD i 0 ∈ S := by
         rw [List.getD_eq_getElem?_getD,List.getElem?_eq_getElem (by rw [← HQ.out.2.2.2.2]; exact hi)]
         exact List.getElem_mem _
       exact HZ.out.2.1.2.1 _ hm'
     clear hc
     go_wp2
     rw [← hw5]
     try rw [← hg5]
     clear hw5 hg5
     go_loopw [14,15] (fun vp vi wr => ∃ i : Nat,i ≤ N ∧ vi = .int .i64 (i : Nat) ∧ Hid (PnL w3.heap.size vp (i + 1) (nal G c i) wr ∧ Below w3.heap.size w3 wr)) (fun _ vi _ => N - (intOf vi).toNat)
     case atStart => exact ⟨0,by omega,rfl,H5.out.2,H5.out.1⟩
     case round =>
       obtain ⟨i,hi,rfl,HI⟩ := hrel
       rename World => wr
       have hsr := HI.out.2.size
       obtain ⟨gp,cp,hvp,hrp,hgp,hcp1,hcp2⟩ := HI.out.1
       subst hvp
       have HP : Hid (Row gp (i + 1) (nal G c i) wr ∧ w3.heap.size ≤ gp ∧ i + 1 ≤ cp ∧ cp ≤ 9223372036854775807) := ⟨hrp,hgp,hcp1,hcp2⟩
       clear hrp hgp hcp1 hcp2
       by_cases hlt : i < N
       · have hib : (i : Int) < (N : Int) := by omega
         have hi0 : (0 : Int) ≤ (i : Int) := by omega
         obtain ⟨bx,ox,hxo,cx0⟩ := H1.out.1 i hlt
         have lx : bx < w1.heap.size := H1.out.2.1 _ hxo
         obtain ⟨k,hk⟩ : ∃ k,k = S.getD i 0 := ⟨_,rfl⟩
         obtain ⟨x,hx⟩ : ∃ x,x = c i := ⟨_,rfl⟩
         have HX : Hid (x = c i ∧ x < G.q ∧ G.xp b k = x ∧ k ≤ 1000) := by
           refine ⟨hx,by rw [hx]; exact HS.out.2.1 i hlt,by rw [hx,hk,HS.out.1], ?_⟩
           have := HS.out.2.2 i hlt
           rw [← hk] at this
           omega
         have HSk : Hid (∀ wx,Below wr.heap.size wr wx → GnS B G gm cm bx (ox + i) k wx) := fun wx hb => by
           have hb' := bel_up' HI.out.2 hb
           obtain ⟨c0,c1,c2,c3,c4⟩ := (HBx.out wx hb').1
           have h3 := H3.out.2.2.1.size
           exact ⟨c0,c1,c2,c3,c4,by rw [hk]; exact (hb'.cell (p := ⟨bx,ox + i,none⟩) (show bx < w3.heap.size by omega)).trans ((H3.out.2.2.1.cell (p := ⟨bx,ox + i,none⟩) lx).trans cx0)⟩
         subst hxo
         clear hk hx lx cx0
         have hS0 := HSk.out wr.drew (Below.refl _ _).drew
         go_upto_region 15 with fail
         refine wp_region_noPanic ?_
         refine wp_region_L (S := GnS B G gm cm bx (ox + i) k) [] (by kernel_rfl) ?_
         refine wpAnyL_take (i := 0) (v := ?_) (by rw [List.getElem?_toArray]; rfl) (by decide +kernel) (by decide +kernel) (by decide +kernel) (by decide +kernel) (by decide +kernel) (fun _ _ _ h => h) hS0 (Or.inl ⟨by rfl, ?_⟩) ?_
         rotate_left
         · intro wz hSz; obtain ⟨z0,z1,z2,z3,z4,z5⟩ := hSz; go_simp; first | done | with_reducible rfl | (simp only [hnz,if_false]; first | done | with_reducible rfl) | (simp only [hi0,hib,and_self,if_true,Int.toNat_natCast]; first | done | with_reducible rfl) | (simp [hi0,hib]; first | done | with_reducible rfl)
         try simp only [Act.put,List.setIfInBounds_toArray,List.set_cons_zero,List.set_cons_succ]
         refine wpAnyL_take (i := 1) (v := ?_) (by rw [List.getElem?_toArray]; rfl) (by decide +kernel) (by decide +kernel) (by decide +kernel) (by decide +kernel) (by decide +kernel) (fun _ _ _ h => h) hS0 (Or.inl ⟨by rfl, ?_⟩) ?_
         rotate_left
         · intro wz hSz; obtain ⟨z0,z1,z2,z3,z4,z5⟩ := hSz; go_simp; first | done | with_reducible rfl | (simp only [hnz,if_false]; first | done | with_reducible rfl) | (simp only [hi0,hib,and_self,if_true,Int.toNat_natCast]; first | done | with_reducible rfl) | (simp [hi0,hib]; first | done | with_reducible rfl)
         try simp only [Act.put,List.setIfInBounds_toArray,List.set_cons_zero,List.set_cons_succ]
         refine wpAnyL_take (i := 2) (v := ?_) (by rw [List.getElem?_toArray]; rfl) (by decide +kernel) (by decide +kernel) (by decide +kernel) (by decide +kernel) (by decide +kernel) (fun _ _ _ h => h) hS0 (Or.inl ⟨by rfl, ?_⟩) ?_
         rotate_left
         · intro wz hSz; obtain ⟨z0,z1,z2,z3,z4,z5⟩ := hSz; go_simp; first | done | with_reducible rfl | (simp only [hnz,if_false]; first | done | with_reducible rfl) | (simp only [hi0,hib,and_self,if_true,Int.toNat_natCast]; first | done | with_reducible rfl) | (simp [hi0,hib]; first | done | with_reducible rfl)
         try simp only [Act.put,List.setIfInBounds_toArray,List.set_cons_zero,List.set_cons_succ]
         refine wpAnyL_take (i := 3) (v := ?_) (by rw [List.getElem?_toArray]; rfl) (by decide +kernel) (by decide +kernel) (by decide +kernel) (by decide +kernel) (by decide +kernel) (fun _ _ _ h => h) hS0 (Or.inl ⟨by rfl, ?_⟩) ?_
         rotate_left
         · intro wz hSz; obtain ⟨z0,z1,z2,z3,z4,z5⟩ := hSz; go_simp; first | done | with_reducible rfl | (simp only [hnz,if_false]; first | done | with_reducible rfl) | (simp only [hi0,hib,and_self,if_true,Int.toNat_natCast]; first | done | with_reducible rfl) | (simp [hi0,hib]; first | done | with_reducible rfl)
         try simp only [Act.put,List.setIfInBounds_toArray,List.set_cons_zero,List.set_cons_succ]
         refine wpAnyL_take (i := 4) (v := ?_) (by rw [List.getElem?_toArray]; rfl) (by decide +kernel) (by decide +kernel) (by decide +kernel) (by decide +kernel) (by decide +kernel) (fun _ _ _ h => h) hS0 (Or.inl ⟨by rfl, ?_⟩) ?_
         rotate_left
         · intro wz hSz; obtain ⟨z0,z1,z2,z3,z4,z5⟩ := hSz; go_simp; first | done | with_reducible rfl | (simp only [hnz,if_false]; first | done | with_reducible rfl) | (simp only [hi0,hib,and_self,if_true,Int.toNat_natCast]; first | done | with_reducible rfl) | (simp [hi0,hib]; first | done | with_reducible rfl)
         try simp only [Act.put,List.setIfInBounds_toArray,List.set_cons_zero,List.set_cons_succ]
         refine wpAnyL_take (i := 5) (v := ?_) (by rw [List.getElem?_toArray]; rfl) (by decide +kernel) (by decide +kernel) (by decide +kernel) (by decide +kernel) (by decide +kernel) (fun _ _ _ h => h) hS0 (Or.inl ⟨by rfl, ?_⟩) ?_
         rotate_left
         · intro wz hSz; obtain ⟨z0,z1,z2,z3,z4,z5⟩ := hSz; go_simp; first | done | with_reducible rfl | (simp only [hnz,if_false]; first | done | with_reducible rfl) | (simp only [hi0,hib,and_self,if_true,Int.toNat_natCast]; first | done | with_reducible rfl) | (simp [hi0,hib]; first | done | with_reducible rfl)
         try simp only [Act.put,List.setIfInBounds_toArray,List.set_cons_zero,List.set_cons_succ]
         refine wpAnyL_one (i := 6) (by kernel_rfl) (by rw [List.getElem?_toArray]; rfl) (fun K hK => ?_)
         have HK : Hid _ := hK
         clear hK
         go_simp
         refine (HPw.out wr.drew (bel_up' HI.out.2 (Below.refl _ _).drew) b k HZ.out.2.2.2.1 HX.out.2.2.2).mono ?_
         rw [HX.out.2.2.1]
         rintro e w6 ⟨rfl,hb6⟩
         replace hb6 : Below wr.heap.size wr w6 := ⟨hb6.os,hb6.tape,hb6.output,hb6.size,hb6.block⟩
         have hS6 := HSk.out w6 hb6
         have H6 : Hid (Below wr.heap.size wr w6) := hb6
         clear hb6
         refine HK.out _ _ (fun _ => hS6) ?_
         clear HK K
         try simp only [Act.put,List.setIfInBounds_toArray,List.set_cons_zero,List.set_cons_succ]
         refine wpAnyL_one (i := 7) (by kernel_rfl) (by rw [List.getElem?_toArray]; rfl) (fun K hK => ?_)
         have HK : Hid _ := hK
         clear hK
         go_simp
         refine HK.out _ _ (fun _ => hS6) ?_
         clear HK K
         try simp only [Act.put,List.setIfInBounds_toArray,List.set_cons_zero,List.set_cons_succ]
         refine wpAnyL_done (by kernel_rfl) (NoPanic.normal ?_)
         clear hS0 hS6
         have hS1 := HSk.out w6.drew (bel_up' H6.out (Below.refl _ _).drew)
         have HNg : Hid (∀ wx,Calls Tryz.prog 46 #[.agg #[.int .i64 G.q, .int .i64 G.p, .int .i64 G.m, .int .i64 G.gen, .slice (some ⟨gm,0,none⟩) (G.m + 1) cm], .int .i64 (x : Nat)] wx fun e w' => e = .returned (.int .i64 (G.ng x : Nat)) ∧ Below wx.heap.size wx w') := fun wx => rneg_nat HZ.out.1.2.1 G.gen _ x HX.out.2.1 wx
         have HPM : Hid (∀ wx g8,Below w6.heap.size w6 wx → wx.heap[g8]? = some (.cells #[.int .i64 (G.ng x : Nat), .int .i64 1] 3 (0,0)) → Calls Tryz.prog 45 #[.agg #[.int .i64 G.q, .int .i64 G.p, .int .i64 G.m, .int .i64 G.gen, .slice (some ⟨gm,0,none⟩) (G.m + 1) cm], .slice (some ⟨gp,0,none⟩) (i + 1 : Nat) cp, .slice (some ⟨g8,0,none⟩) 2 2] wx fun e w' => ∃ v,e = .returned v ∧ PnL wx.heap.size v (i + 1 + 1) (nal G c (i + 1)) w' ∧ Below wx.heap.size wx w') := fun wx g8 hb h8 => by
           have hG := HZ.out.1.2.1
           have F' := fld hG
           obtain ⟨n1,n2,n3,_⟩ := nal_ok F' HS.out.2.1 i hi
           obtain ⟨m1,m2,m3,_⟩ := nal_ok F' HS.out.2.1 (i + 1) (by omega)
           have hxe := xmr_el F' HX.out.2.1
           have hp : pmul G (i + 1) (nal G c i) (xmr G x) = nal G c (i + 1) := by rw [HX.out.1]; exact nal_succ F' HS.out.2.1 hlt
           have hbw := bel_up' H6.out hb
           have hrw := HP.out.1.below hbw HP.out.1.lt
           have hr8 : Row g8 2 (xmr G x) wx := by
             refine ⟨2,fun k => if k = 0 then .int .i64 (G.ng x : Nat) else .int .i64 1,⟨#[.int .i64 (G.ng x : Nat), .int .i64 1],h8,rfl,fun k hk => ?_⟩,Nat.le_refl _,fun k hk => ?_⟩
             · have : k = 0 ∨ k = 1 := by omega
               rcases this with rfl | rfl <;> rfl
             · have : k = 0 ∨ k = 1 := by omega
               rcases this with rfl | rfl <;> rfl
           refine (rpmul_any hG G.gen gm cm (by omega) (by omega) n1 hxe n2 (xmr_bd x) (hrw.sl (Nat.le_refl _)) (hr8.sl (Nat.le_refl _)) (fun y hy => by cases hy; exact hrw.lt) (fun y hy => by cases hy; exact hr8.lt) HP.out.2.2.1 HP.out.2.2.2 (fun e => (by cases e)) (Nat.le_refl _) (by omega) (fun e => (by cases e)) (HBx.out wx (bel_up' HI.out.2 hbw)).2).mono ?_
           rw [hp]
           have d3 : dgn (nal G c (i + 1)) (i + 1 + 2) = i + 1 + 1 := dgn_is (m2.mono (by omega)) m2 (fun _ => by rw [Nat.add_sub_cancel,m3]; omega)
           rw [d3]
           rintro e w' ⟨v,rfl,hv,hb'⟩
           exact ⟨v,rfl,PnL.of hv (by omega),hb'⟩
         go_upto_region 16 with fail
         refine wp_region_noPanic ?_
         refine wp_region_L (S := GnS B G gm cm bx (ox + i) k) [] (by kernel_rfl) ?_
         refine wpAnyL_take (i := 0) (v := ?_) (by rw [List.getElem?_toArray]; rfl) (by decide +kernel) (by decide +kernel) (by decide +kernel) (by decide +kernel) (by decide +kernel) (fun _ _ _ h => h) hS1 (Or.inl ⟨by rfl, ?_⟩) ?_
         rotate_left
         · intro wz hSz; obtain ⟨z0,z1,z2,z3,z4,z5⟩ := hSz; go_simp; first | done | with_reducible rfl | (simp only [hnz,if_false]; first | done | with_reducible rfl) | (simp only [hi0,hib,and_self,if_true,Int.toNat_natCast]; first | done | with_reducible rfl) | (simp [hi0,hib]; first | done | with_reducible rfl)
         try simp only [Act.put,List.setIfInBounds_toArray,List.set_cons_zero,List.set_cons_succ]
         refine wpAnyL_take (i := 1) (v := ?_) (by rw [List.getElem?_toArray]; rfl) (by decide +kernel) (by decide +kernel) (by decide +kernel) (by decide +kernel) (by decide +kernel) (fun _ _ _ h => h) hS1 (Or.inl ⟨by rfl, ?_⟩) ?_
         rotate_left
         · intro wz hSz; obtain ⟨z0,z1,z2,z3,z4,z5⟩ := hSz; go_simp; first | done | with_reducible rfl | (simp only [hnz,if_false]; first | done | with_reducible rfl) | (simp only [hi0,hib,and_self,if_true,Int.toNat_natCast]; first | done | with_reducible rfl) | (simp [hi0,hib]; first | done | with_reducible rfl)
         try simp only [Act.put,List.setIfInBounds_toArray,List.set_cons_zero,List.set_cons_succ]
         refine wpAnyL_take (i := 2) (v := ?_) (by rw [List.getElem?_toArray]; rfl) (by decide +kernel) (by decide +kernel) (by decide +kernel) (by decide +kernel) (by decide +kernel) (fun _ _ _ h => h) hS1 (Or.inl ⟨by rfl, ?_⟩) ?_
         rotate_left
         · intro wz hSz; obtain ⟨z0,z1,z2,z3,z4,z5⟩ := hSz; go_simp; first | done | with_reducible rfl | (simp only [hnz,if_false]; first | done | with_reducible rfl) | (simp only [hi0,hib,and_self,if_true,Int.toNat_natCast]; first | done | with_reducible rfl) | (simp [hi0,hib]; first | done | with_reducible rfl)
         try simp only [Act.put,List.setIfInBounds_toArray,List.set_cons_zero,List.set_cons_succ]
         refine wpAnyL_take (i := 3) (v := ?_) (by rw [List.getElem?_toArray]; rfl) (by decide +kernel) (by decide +kernel) (by decide +kernel) (by decide +kernel) (by decide +kernel) (fun _ _ _ h => h) hS1 (Or.inl ⟨by rfl, ?_⟩) ?_
         rotate_left
         · intro wz hSz; obtain ⟨z0,z1,z2,z3,z4,z5⟩ := hSz; go_simp; first | done | with_reducible rfl | (simp only [hnz,if_false]; first | done | with_reducible rfl) | (simp only [hi0,hib,and_self,if_true,Int.toNat_natCast]; first | done | with_reducible rfl) | (simp [hi0,hib]; first | done | with_reducible rfl)
         try simp only [Act.put,List.setIfInBounds_toArray,List.set_cons_zero,List.set_cons_succ]
         refine wpAnyL_one (i := 4) (by kernel_rfl) (by rw [List.getElem?_toArray]; rfl) (fun K hK => ?_)
         have HK : Hid _ := hK
         clear hK
         go_simp
         refine (HNg.out w6.drew).mono ?_
         rintro e w7 ⟨rfl,hb7⟩
         replace hb7 : Below w6.heap.size w6 w7 := ⟨hb7.os,hb7.tape,hb7.output,hb7.size,hb7.block⟩
         have hS7 := HSk.out w7 (bel_up' H6.out hb7)
         have H7 : Hid (Below w6.heap.size w6 w7) := hb7
         clear hb7
         refine HK.out _ _ (fun _ => hS7) ?_
         clear HK K
         try simp only [Act.put,List.setIfInBounds_toArray,List.set_cons_zero,List.set_cons_succ]
         refine wpAnyL_one (i := 5) (by kernel_rfl) (by rw [List.getElem?_toArray]; rfl) (fun K hK => ?_)
         have HK : Hid _ := hK
         clear hK
         go_simp
         obtain ⟨w8,hw8⟩ : ∃ w8,w8 = w7.alloc (.cells #[.int .i64 (G.ng x : Nat), .int .i64 1] 3) := ⟨_,rfl⟩
         have H8 : Hid (Below w6.heap.size w6 w8 ∧ w8.heap[w7.heap.size]? = some (.cells #[.int .i64 (G.ng x : Nat), .int .i64 1] 3 (0,0))) := by
           have hb8 : Below w7.heap.size w7 w8 := by rw [hw8]; exact (Below.refl _ _).alloc (Nat.le_refl _) _
           exact ⟨bel_up' H7.out hb8,by rw [hw8]; exact two_new _⟩
         have hS8 := HSk.out w8 (bel_up' H6.out H8.out.1)
         first | rw [← hw8] | skip
         clear hw8
         refine HK.out _ _ (fun _ => hS8) ?_
         clear HK K
         try simp only [Act.put,List.setIfInBounds_toArray,List.set_cons_zero,List.set_cons_succ]
         refine wpAnyL_one (i := 6) (by kernel_rfl) (by rw [List.getElem?_toArray]; rfl) (fun K hK => ?_)
         have HK : Hid _ := hK
         clear hK
         go_simp
         refine (HPM.out w8 w7.heap.size H8.out.1 H8.out.2).mono ?_
         rintro e w9 ⟨v9,rfl,hv9,hb9⟩
         have H9 : Hid (PnL w3.heap.size v9 (i + 1 + 1) (nal G c (i + 1)) w9 ∧ Below w3.heap.size w3 w9) := by
           have hb3 := bel_up' HI.out.2 (bel_up' H6.out H8.out.1)
           exact ⟨hv9.mono hb3.size,bel_up' hb3 hb9⟩
         have hS9 := HSk.out w9 (bel_up' (bel_up' H6.out H8.out.1) hb9)
         obtain ⟨g9,c9,hvg,_⟩ := hv9
         subst hvg
         clear hb9
         refine HK.out _ _ (fun _ => hS9) ?_
         clear HK K
         try simp only [Act.put,List.setIfInBounds_toArray,List.set_cons_zero,List.set_cons_succ]
         refine wpAnyL_one (i := 7) (by kernel_rfl) (by rw [List.getElem?_toArray]; rfl) (fun K hK => ?_)
         have HK : Hid _ := hK
         clear hK
         go_simp
         refine HK.out _ _ (fun _ => hS9) ?_
         clear HK K
         try simp only [Act.put,List.setIfInBounds_toArray,List.set_cons_zero,List.set_cons_succ]
         refine wpAnyL_done (by kernel_rfl) (NoPanic.normal ?_)
         clear hS1 hS7 hS8 hS9 HSk HNg HPM
         go_wp2
         go_roundw
         case rel => exact ⟨i + 1,by omega,by go_num,H9.out⟩
         case measure => simp [intOf]; omega
       · have hib : ¬ (i : Int) < (N : Int) := by omega
         have hie : i = N := by omega
         subst hie
         have HEm : Hid (Calls Tryz.prog 47 #[.int .i64 (q : Nat), .int .i64 (s : Nat)] wr fun e w' => ∃ eo ec,e = .returned (.tuple #[.slice eo q ec, .int .i64 0]) ∧ ArgL eo q ec (fun i => ((G.emb E (G.root E) i : Nat) : Int)) w' ∧ (∀ a,eo = some a → wr.heap.size ≤ a.block) ∧ Below wr.heap.size wr w') := by
           rw [HQ.out.1,HSG.out.1]
           refine (rembed_any HZ.out.1.2.1 HZ.out.1.1 wr HZ.out.1.2.2.1.over).mono ?_
           rintro e w' ⟨v,rfl,ho,hb⟩
           obtain ⟨eo,ec,rfl,hA⟩ := ho.argOf (n := E.q) (by unfold FD.embL; rw [List.length_map,List.length_range])
           refine ⟨eo,ec,rfl,⟨fun i hi => ?_,hA.lt,hA.nil,hA.le,hA.cap⟩,fun a ha => by subst ha; exact (ho.lt a.block rfl).1,hb⟩
           obtain ⟨b,off,e,k⟩ := hA.sl i hi
           refine ⟨b,off,e,k.trans ?_⟩
           show some (Value.int .i64 ((G.embL E).getD i 0)) = some (Value.int .i64 ((G.emb E (G.root E) i : Nat) : Int))
           unfold FD.embL
           rw [List.getD_eq_getElem?_getD,List.getElem?_map,List.getElem?_range hi]
           rfl
         go_wp2_with fail
         refine HEm.out.mono ?_
         rintro e w6 ⟨eo,ec,rfl,hA6,hge6,hb6⟩
         obtain ⟨P,hP⟩ : ∃ P : Nat → Nat,P = prL G (S.map (G.xp b)) := ⟨_,rfl⟩
         have HE6 : Hid (∀ j,j < q → ∃ b off,eo = some ⟨b,off,none⟩ ∧ b ≠ gp ∧ w6.cell? ⟨b,off + j,none⟩ = some (.int .i64 ((G.emb E (G.root E) j : Nat) : Int))) := fun j hj => by
           obtain ⟨b',off,e,k⟩ := hA6.sl j hj
           have h1 := hge6 _ e
           have h2 := HP.out.1.lt
           exact ⟨b',off,e,by have h1 : wr.heap.size ≤ b' := h1; omega,k⟩
         have H6 : Hid (Row gp (i + 1) (fun j => if j < 0 then gtl G E (P j) else P j) w6 ∧ Below w.heap.size w w6 ∧ w.heap.size ≤ gp) := by
           have e1 : nal G c i = P := by rw [hP,HQ.out.2.2.2.2,HS.out.1]; exact nal_gen HZ.out.1.2.1 b S
           have h0 := H1.out.2.2.size
           have h3 := H3.out.2.2.1.size
           have h4 := HP.out.2.1
           have e2 : (fun j => if j < 0 then gtl G E (P j) else P j) = P := by funext j; rw [if_neg (by omega)]
           rw [e2]
           exact ⟨by rw [← e1]; exact HP.out.1.below hb6 HP.out.1.lt,bel_up' H1.out.2.2 (bel_up' H3.out.2.2.1 (bel_up' HI.out.2 hb6)),by omega⟩
         have HG : Hid ((∀ j,gtl G E (P j) < q ∧ G.emb E (G.root E) (gtl G E (P j)) = P j) ∧ (∀ a b,a < q → b < q → G.emb E (G.root E) a = G.emb E (G.root E) b → a = b) ∧ ∀ j,gtl G E (P j) = gnr G E b S j) := by
           rw [HQ.out.1]
           refine ⟨fun j => ?_,fun a b ha hb e => emb_inj HZ.out.1.2.1 HZ.out.1.1 HZ.out.1.2.2.1.over ha hb e,fun j => by rw [hP]; rfl⟩
           rw [hP]
           exact gtl_is HZ.out.1.2.1 HZ.out.1.1 HZ.out.1.2.2.1.over (prL_el (fld HZ.out.1.2.1) _ j) (prod_fix HZ.out.1.2.1 HZ.out.1.1 HZ.out.1.2.2.1.over HZ.out.2.2.1 HZ.out.1.2.2.2 HZ.out.2.1.1 HZ.out.2.1.2.1 HZ.out.2.1.2.2 j)
         have HCp : Hid (i + 1 ≤ cp ∧ cp ≤ 9223372036854775807) := HP.out.2.2
         clear hA6 hge6 hb6 hP HEm HP HI HBx HPw H5 HS H3 hsr hib
         obtain ⟨N1,hN1⟩ : ∃ N1,N1 = i + 1 := ⟨_,rfl⟩
         have hN1i : (i : Int) + 1 = (N1 : Int) := by omega
         have hN1b : N1 ≤ 66 := by omega
         rw [← hN1] at H6 HCp
         rw [← hN1]
         have HN1 : Hid (N1 = i + 1) := hN1
         clear hN1 hN1i
         go_wp2
         go_loopw [19] (fun vi wx => ∃ t : Nat,t ≤ N1 ∧ vi = .int .i64 (t : Nat) ∧ Hid (Row gp N1 (fun j => if j < t then gtl G E (P j) else P j) wx ∧ Below w.heap.size w wx ∧ ∀ j,j < q → ∃ b off,eo = some ⟨b,off,none⟩ ∧ b ≠ gp ∧ wx.cell? ⟨b,off + j,none⟩ = some (.int .i64 ((G.emb E (G.root E) j : Nat) : Int)))) (fun vi _ => N1 - (intOf vi).toNat)
         case atStart => exact ⟨0,by omega,rfl,H6.out.1,H6.out.2.1,HE6.out⟩
         case round =>
           obtain ⟨t2,ht2,rfl,HJ⟩ := hrel
           rename World => wx
           by_cases htn : t2 < N1
           · have htb : (t2 : Int) < (N1 : Int) := by omega
             have htb0 : (0 : Int) ≤ (t2 : Int) := by omega
             obtain ⟨y,hy⟩ : ∃ y,y = gtl G E (P t2) := ⟨_,rfl⟩
             obtain ⟨x,hx⟩ : ∃ x,x = P t2 := ⟨_,rfl⟩
             have cp0 : wx.cell? ⟨gp,t2,none⟩ = some (.int .i64 (x : Nat)) := by
               rw [HJ.out.1.cell t2 htn,if_neg (by omega),hx]
             have fp0 := HJ.out.1.free t2
             have HY : Hid (y < q ∧ G.emb E (G.root E) y = x ∧ y = gtl G E (P t2)) := by
               rw [hy,hx]; exact ⟨(HG.out.1 t2).1,(HG.out.1 t2).2,rfl⟩
             have hyq : y < q := HY.out.1
             have HN : Hid (∀ d,Row gp N1 (fun j => if j < t2 + 1 then gtl G E (P j) else P j) ((wx.drewN d).setCell ⟨gp,t2,none⟩ (.int .i64 (y : Nat))) ∧ Below w.heap.size w ((wx.drewN d).setCell ⟨gp,t2,none⟩ (.int .i64 (y : Nat))) ∧ ∀ j,j < q → ∃ b off,eo = some ⟨b,off,none⟩ ∧ b ≠ gp ∧ ((wx.drewN d).setCell ⟨gp,t2,none⟩ (.int .i64 (y : Nat))).cell? ⟨b,off + j,none⟩ = some (.int .i64 ((G.emb E (G.root E) j : Nat) : Int))) := fun d => by
               refine ⟨(HJ.out.1.drewN d).store t2 y (fun j _ => ?_),(below_drewN2 HJ.out.2.1 d).setCell (show w.heap.size ≤ gp from H6.out.2.2) _,fun j hj => ?_⟩
               · by_cases e : j = t2
                 · rw [if_pos e,if_pos (by omega),e,hy]
                 · rw [if_neg e]
                   by_cases e2 : j < t2
                   · rw [if_pos e2,if_pos (by omega)]
                   · rw [if_neg e2,if_neg (by omega)]
               · obtain ⟨b',off,e,hne,k⟩ := HJ.out.2.2 j hj
                 refine ⟨b',off,e,hne, ?_⟩
                 have hcs : ∀ (W : World) (v : Value),(W.setCell ⟨gp,t2,none⟩ v).cell? ⟨b',off + j,none⟩ = W.cell? ⟨b',off + j,none⟩ := fun W v => by
                   unfold World.cell?
                   rw [Below.heap_setCell _ _ _ _ (show b' ≠ gp from hne)]
                 rw [hcs]; exact k
             clear hy hx
             go_wp2
             go_loopw [20] (fun vk wz => ∃ kk d : Nat,kk ≤ y ∧ vk = .int .i64 (kk : Nat) ∧ wz = wx.drewN d) (fun vk _ => q - (intOf vk).toNat)
             case atStart => exact ⟨0,0,by omega,rfl,rfl⟩
             case round =>
               obtain ⟨kk,d,hkk,rfl,hwz⟩ := hrel
               rename World => wz
               subst hwz
               have hkq : kk < q := by omega
               have hkb : (kk : Int) < (q : Int) := by omega
               have hkb0 : (0 : Int) ≤ (kk : Int) := by omega
               obtain ⟨be,oe,heo,_,ce⟩ := HJ.out.2.2 kk hkq
               subst heo
               obtain ⟨a,ha⟩ : ∃ a,a = G.emb E (G.root E) kk := ⟨_,rfl⟩
               rw [← ha] at ce
               by_cases hky : kk = y
               · have hax : ((a : Int) == (x : Int)) = true := by rw [beq_iff_eq,ha,hky,HY.out.2.1]
                 clear ha
                 subst hky
                 go_wp2
                 go_big_quiet (fail)
                 go_wp2
                 go_roundw
                 case rel => exact ⟨t2 + 1,by omega,by go_num,HN.out _⟩
                 case measure => simp [intOf]; omega
               · have hax : ((a : Int) == (x : Int)) = false := by
                   rw [beq_eq_false_iff_ne]
                   intro e
                   refine hky (HG.out.2.1 kk y hkq HY.out.1 ?_)
                   rw [← ha,HY.out.2.1]; omega
                 clear ha
                 go_wp2
                 go_big_quiet (fail)
                 go_wp2
                 go_roundw
                 case rel => exact ⟨kk + 1,_,by omega,by go_num,by first | rfl | rw [World.drewN_drewN]⟩
                 case measure => simp [intOf]; omega
           · have htb : ¬ (t2 : Int) < (N1 : Int) := by omega
             have hte : t2 = N1 := by omega
             have HR : Hid (Arg (some ⟨gp,0,none⟩) N1 cp (fun k => ((gnr G E b S k : Nat) : Int)) wx ∧ Below w.heap.size w wx) := by
               refine ⟨⟨fun j hj => ⟨gp,0,rfl, ?_⟩,fun a ha => by cases ha; exact HJ.out.1.lt,by omega,fun e => (by cases e),HCp.out.1,HCp.out.2⟩,HJ.out.2.1⟩
               rw [Nat.zero_add,HJ.out.1.cell j hj,if_pos (by omega),HG.out.2.2]
             go_wp2
             go_ret2
             have hN := HN1.out
             subst hN
             exact ⟨_,_,rfl,HR.out⟩
   · have hr0 : r ≠ 0 := by
       rw [HT.out.2,HT.out.1,HI.out]
       exact HQ.out.2.2.1 i (by omega)
     have hr0b : ((r : Int) != 0) = true := by rw [bne_iff_ne]; omega
     obtain ⟨s2,hs2⟩ : ∃ s2,s2 = s * q := ⟨_,rfl⟩
     have hs2i : (s : Int) * (q : Int) = (s2 : Int) := by rw [hs2]; simp
     have hs2e : s2 = q ^ (i + 1 + 1) := by rw [hs2,HI.out, ← Nat.pow_succ]
     have hs2b : s2 ≤ 64 := by
       rw [hs2e]
       refine Nat.le_trans (Nat.pow_le_pow_right (by omega) (show i + 1 + 1 ≤ i0 + 1 by omega)) ?_
       rw [← HQ.out.2.1]; exact hqG
     have hs2w : IntKind.i64.wrap (s2 : Int) = (s2 : Int) := wrap_to rfl (by omega)
     have hs2g : s < s2 := by
       rw [hs2]
       have : s * 2 ≤ s * q := Nat.mul_le_mul_left s hq2
       omega
     have HN : Hid (s2 = q ^ (i + 1 + 1)) := hs2e
     clear hs2 hs2e
     go_wp2
     go_roundw
     case rel => exact ⟨i + 1,s2,by first | rfl | go_num,hs2b,by omega,by first | rfl | trivial,HN.out⟩
     case measure => simp [intOf]; omega
end Go.Proofs.YtppggchhkckobaaGreat
