/- Texts of ours, one behind the other: KT3 KT4 KT5 KT6 KT7. -/
import Derived.Test.YtppggchhkckobaaGreatZS68
import Derived.Test.YtppggchhkckobaaGreatZX18
import Derived.Test.YtppggchhkckobaaGreatZM3
import Derived.Test.YtppggchhkckobaaGreatZR17
import Derived.Test.YtppggchhkckobaaGreatZX15
import Derived.Test.YtppggchhkckobaaGreatZW13
namespace Go.Proofs.YtppggchhkckobaaGreat
open Go.RowKit Go.Sort
def cyc (D : FD) (n : Int) : Int := if n < 1 ∨ 64 < n then 4 else if n.toNat % D.p = 0 then 3 else 0
theorem cyc_ok {D : FD} {n : Int} (h : cyc D n = 0) : ∃ N : Nat,n = (N : Int) ∧ 1 ≤ N ∧ N ≤ 64 ∧ N % D.p ≠ 0 := by
 unfold cyc at h
 by_cases c : n < 1 ∨ 64 < n
 · rw [if_pos c] at h; cases h
 · rw [if_neg c] at h
   by_cases c2 : n.toNat % D.p = 0
   · rw [if_pos c2] at h; cases h
   · exact ⟨n.toNat,by omega,by omega,by omega,c2⟩
set_option maxHeartbeats 2000000 in
set_option maxRecDepth 100000 in
theorem cychk_none (q n : Int) (w : World) (h : ∀ D ∈ fieldsL, (D.q : Int) ≠ q) :
   Calls Tryz.prog 30 #[.int .i64 q, .int .i64 n] w fun e w' => e = .returned (.int .i64 1) ∧ w' = w := by
 have HN : Hid (Calls Tryz.prog 55 #[.int .i64 q] w fun e w' => e = .returned (.tuple #[.pointer none, .int .i64 1]) ∧ w' = w) := new_none q w h
 clear h
 go_enter Tryz.func30,Tryz.ntmps30
 go_wp2_with fail
 refine HN.out.mono ?_
 rintro e w' ⟨rfl,hw⟩
 have hw := hw.symm
 subst hw
 go_wp2
 go_ret
 exact ⟨rfl,rfl⟩
set_option maxHeartbeats 4000000 in
set_option maxRecDepth 100000 in
theorem cychk_any {D : FD} (hD : D ∈ fieldsL) (n : Int) (w : World) :
   Calls Tryz.prog 30 #[.int .i64 D.q, .int .i64 n] w fun e w' => e = .returned (.int .i64 (cyc D n)) ∧ Below w.heap.size w w' := by
 have HN : Hid (Calls Tryz.prog 55 #[.int .i64 D.q] w fun e w' => ∃ F T g,e = .returned (.tuple #[.pointer (some ⟨F,0,none⟩), .int .i64 0]) ∧ FAt F T D g w' ∧ w.heap.size ≤ F ∧ w.heap.size ≤ T ∧ Below w.heap.size w w') := new_any hD w
 obtain ⟨E,hE⟩ : ∃ E,E = cyc D n := ⟨_,rfl⟩
 rw [← hE]
 have hp2 := (good hD).p2
 have hp64 := (good hD).p64
 obtain ⟨p,hp⟩ : ∃ p,p = D.p := ⟨_,rfl⟩
 rw [← hp] at hp2 hp64
 unfold cyc at hE
 rw [← hp] at hE
 go_enter Tryz.func30,Tryz.ntmps30
 go_wp2_with fail
 refine HN.out.mono ?_
 rintro e w1 ⟨F,T,g,rfl,hF,_,_,hb⟩
 have HC : Hid (Calls Tryz.prog 72 #[.pointer (some ⟨F,0,none⟩)] w1 fun e w' => e = .returned (.int .i64 (p : Nat)) ∧ w' = w1) := by rw [hp]; exact char_any hF
 have HB : Hid (Below w.heap.size w w1) := hb
 clear hF hb hp HN hD
 by_cases h1 : n < 1
 · rw [if_pos (Or.inl h1)] at hE
   have HE : Hid (E = 4) := hE
   clear hE
   go_wp2
   go_ret
   exact ⟨by (first | (rw [HE.out]; rfl) | rw [HE.out]),HB.out⟩
 · by_cases h2 : 64 < n
   · rw [if_pos (Or.inr h2)] at hE
     have HE : Hid (E = 4) := hE
     clear hE
     have h2' : n > 64 := h2
     go_wp2
     go_ret
     exact ⟨by (first | (rw [HE.out]; rfl) | rw [HE.out]),HB.out⟩
   · rw [if_neg (by omega)] at hE
     obtain ⟨N,rfl⟩ : ∃ N : Nat,n = (N : Int) := ⟨n.toNat,by omega⟩
     rw [Int.toNat_natCast] at hE
     have hN64 : N ≤ 64 := by omega
     have h1i : ¬ (N : Int) < 1 := by omega
     have h2i : ¬ (64 : Int) < (N : Int) := by omega
     obtain ⟨r,hr⟩ : ∃ r,r = N % p := ⟨_,rfl⟩
     rw [← hr] at hE
     have hp0 : ¬ (p : Int) = 0 := by omega
     have hp0b : ((p : Int) == 0) = false := by rw [beq_eq_false_iff_ne]; omega
     have hrm : (N : Int).tmod (p : Int) = (r : Int) := by rw [Int.tmod_eq_emod_of_nonneg (by omega),hr]; omega
     have hre : (N : Int) % (p : Int) = (r : Int) := by rw [hr]; omega
     have hrb : r ≤ 64 := by rw [hr]; exact Nat.le_trans (Nat.mod_le _ _) hN64
     clear hr h1 h2
     by_cases h3 : r = 0
     · rw [if_pos h3] at hE
       have HE : Hid (E = 3) := hE
       subst h3
       clear hE
       go_wp2_with fail
       refine HC.out.mono ?_
       rintro e w' ⟨rfl,hw⟩
       have hw := hw.symm
       subst hw
       go_wp2
       go_ret
       exact ⟨by (first | (rw [HE.out]; rfl) | rw [HE.out]),HB.out⟩
     · rw [if_neg h3] at hE
       have HE : Hid (E = 0) := hE
       have h3b : ((r : Int) == 0) = false := by rw [beq_eq_false_iff_ne]; omega
       clear hE h3
       go_wp2_with fail
       refine HC.out.mono ?_
       rintro e w' ⟨rfl,hw⟩
       have hw := hw.symm
       subst hw
       go_wp2
       go_ret
       exact ⟨by (first | (rw [HE.out]; rfl) | rw [HE.out]),HB.out⟩
theorem enters_cz1 : ∀ args w,(callFunc 79 args).run Tryz.prog w = .ok (.enter 79 args) w :=
 enters_of Tryz.func79 (by kernel_rfl) rfl
def cout (n x : Int) : Bool := decide (x < 0) || decide (n ≤ x)
set_option maxHeartbeats 2000000 in
theorem cz1_any {B : Nat} {n x : Int} {w : World} (hc : w.cell? ⟨B, 0, none⟩ = some (.int .i64 n)) :
   Calls Tryz.prog 79 #[.int .i64 x, .pointer (some ⟨B,0,none⟩)] w fun e w' => e = .returned (.bool (cout n x)) ∧ w' = w := by
 obtain ⟨R,hR⟩ : ∃ R,R = cout n x := ⟨_,rfl⟩
 rw [← hR]
 unfold cout at hR
 by_cases h1 : x < 0
 · rw [decide_eq_true h1,Bool.true_or] at hR
   subst hR
   go_enter Tryz.func79,Tryz.ntmps79
   go_wp2
   go_ret
   exact ⟨rfl,rfl⟩
 · rw [decide_eq_false h1,Bool.false_or] at hR
   by_cases h2 : n ≤ x
   · rw [decide_eq_true h2] at hR
     subst hR
     have h2' : x ≥ n := h2
     go_enter Tryz.func79,Tryz.ntmps79
     go_wp2
     go_ret
     exact ⟨rfl,rfl⟩
   · rw [decide_eq_false h2] at hR
     subst hR
     have h2' : ¬ x ≥ n := h2
     go_enter Tryz.func79,Tryz.ntmps79
     go_wp2
     go_ret
     exact ⟨rfl,rfl⟩
def czs (e n : Int) (m : Nat) (z : Nat → Int) : Int := if e ≠ 0 then e else if 64 < m then 4 else if anyB (fun j => cout n (z j)) m = true then 10 else 0
set_option maxHeartbeats 4000000 in
set_option maxRecDepth 100000 in
theorem czeros_any {q n e : Int} {zo : Option Addr} {m zc : Nat} {z : Nat → Int} {w : World} (hs : SlZ zo m z w) (hl : LtB zo w.heap.size) (hm : m ≤ 1000000)
   (hC : ∀ w1,Calls Tryz.prog 30 #[.int .i64 q, .int .i64 n] w1 fun x w' => x = .returned (.int .i64 e) ∧ Below w1.heap.size w1 w') :
   Calls Tryz.prog 35 #[.int .i64 q, .int .i64 n, .slice zo m zc] w fun x w' => x = .returned (.int .i64 (czs e n m z)) ∧ Below w.heap.size w w' := by
 obtain ⟨wa,hwa⟩ : ∃ wa,wa = w.alloc (.cells #[.int .i64 n] 3) := ⟨_,rfl⟩
 have hba : Below w.heap.size w wa := by rw [hwa]; exact (Below.refl _ _).alloc (Nat.le_refl _) _
 have hc : wa.cell? ⟨w.heap.size,0,none⟩ = some (.int .i64 n) := by rw [hwa,cell_of_row _ _ _ _ _ (0,0) (two_new _)]; rfl
 have hsa : wa.heap.size = w.heap.size + 1 := by rw [hwa]; simp
 have HA : Hid (Below w.heap.size w wa ∧ wa.cell? ⟨w.heap.size,0,none⟩ = some (.int .i64 n) ∧ wa.heap.size = w.heap.size + 1 ∧ SlZ zo m z w ∧ LtB zo w.heap.size) := ⟨hba,hc,hsa,hs,hl⟩
 have HC : Hid (Calls Tryz.prog 30 #[.int .i64 q, .int .i64 n] wa fun x w' => x = .returned (.int .i64 e) ∧ Below wa.heap.size wa w') := hC wa
 obtain ⟨E,hE⟩ : ∃ E,E = czs e n m z := ⟨_,rfl⟩
 rw [← hE]
 unfold czs at hE
 clear hba hsa hs hl hC
 go_enter Tryz.func35,Tryz.ntmps35
 go_wp2_with fail
 rw [← hwa]
 clear hwa hc
 refine HC.out.mono ?_
 rintro x w1 ⟨rfl,hb1⟩
 have hc1 : w1.cell? ⟨w.heap.size,0,none⟩ = some (.int .i64 n) := ((bcell hb1).1 w.heap.size 0 (by have := HA.out.2.2.1; omega)).trans HA.out.2.1
 have H1 : Hid (Below w.heap.size w w1 ∧ w1.cell? ⟨w.heap.size,0,none⟩ = some (.int .i64 n)) := ⟨bel_up' HA.out.1 hb1,hc1⟩
 obtain ⟨B,hB⟩ : ∃ B,B = w.heap.size := ⟨_,rfl⟩
 have HR : Hid (Calls Tryz.prog 78 #[.slice zo m zc, .func (.func 79) #[] #[.pointer (some ⟨B,0,none⟩)]] w1 fun e w' => e = .returned (.bool (anyB (fun j => cout n (z j)) m)) ∧ w' = w1) := by
   refine containsFn_any (z := z) (p := fun j => cout n (z j)) enters_cz1 (fun i hi => ?_) hm (fun j _ => ?_)
   · obtain ⟨b,off,e,k⟩ := HA.out.2.2.2.1 i hi
     exact ⟨b,off,e,(H1.out.1.cell (p := ⟨b,off + i,none⟩) (show b < w.heap.size from HA.out.2.2.2.2 _ e)).trans k⟩
   · have e : (#[Value.int .i64 (z j)] ++ #[Value.pointer (some ⟨B,0,none⟩)] : Array Value) = #[.int .i64 (z j), .pointer (some ⟨B,0,none⟩)] := rfl
     rw [e]
     exact cz1_any (by rw [hB]; exact H1.out.2)
 try rw [← hB]
 clear hb1 hc1 HC HA hB
 by_cases h0 : e = 0
 · rw [if_neg (by omega)] at hE
   subst h0
   by_cases h1 : 64 < m
   · rw [if_pos h1] at hE
     have HE : Hid (E = 4) := hE
     clear hE
     have h1i : (64 : Int) < (m : Int) := by omega
     have h1j : (m : Int) > 64 := by omega
     go_wp2
     go_ret
     exact ⟨by (first | (rw [HE.out]; rfl) | rw [HE.out]),H1.out.1⟩
   · rw [if_neg h1] at hE
     have h1i : ¬ (64 : Int) < (m : Int) := by omega
     have h1j : ¬ (m : Int) > 64 := by omega
     obtain ⟨R,hR⟩ : ∃ R,R = anyB (fun j => cout n (z j)) m := ⟨_,rfl⟩
     rw [← hR] at hE HR
     clear hR
     go_wp2_with fail
     refine HR.out.mono ?_
     rintro x w' ⟨rfl,hw⟩
     have hw := hw.symm
     subst hw
     cases R with
     | true =>
       rw [if_pos rfl] at hE
       have HE : Hid (E = 10) := hE
       clear hE
       go_wp2
       go_ret
       exact ⟨by (first | (rw [HE.out]; rfl) | rw [HE.out]),H1.out.1⟩
     | false =>
       rw [if_neg (by intro c; cases c)] at hE
       have HE : Hid (E = 0) := hE
       clear hE
       go_wp2
       go_ret
       exact ⟨by (first | (rw [HE.out]; rfl) | rw [HE.out]),H1.out.1⟩
 · rw [if_pos h0] at hE
   have HE : Hid (E = e) := hE
   have hz : (e != 0) = true := by rw [bne_iff_ne]; exact h0
   clear hE
   go_wp2
   go_ret
   exact ⟨by (first | (rw [HE.out]; rfl) | rw [HE.out]),H1.out.1⟩
theorem pow_fld : (fieldsL.all fun E => (List.range 7).all fun i => decide (64 < E.q ^ (i + 1)) || fieldsL.any fun G => G.q == E.q ^ (i + 1) && G.p == E.p && G.m % E.m == 0) = true := by decide +kernel
theorem fld_of_pow {E : FD} (hE : E ∈ fieldsL) {i : Nat} (hi : i < 7) (h : E.q ^ (i + 1) ≤ 64) : ∃ G,G ∈ fieldsL ∧ G.q = E.q ^ (i + 1) ∧ E.p = G.p ∧ G.m % E.m = 0 := by
 have k := List.all_eq_true.1 (List.all_eq_true.1 pow_fld E hE) i (List.mem_range.2 hi)
 rw [Bool.or_eq_true] at k
 rcases k with k | k
 · exact absurd (of_decide_eq_true k) (by omega)
 · obtain ⟨G,hG,k⟩ := List.any_eq_true.1 k
   simp only [Bool.and_eq_true,beq_iff_eq] at k
   exact ⟨G,hG,k.1.1,k.1.2.symm,k.2⟩
structure WR (E : FD) (n : Nat) (G : FD) : Prop where
 fld : G ∈ fieldsL
 over : E.p = G.p ∧ G.m % E.m = 0
 root : (G.q - 1) % n = 0
 least : ∃ i,G.q = E.q ^ (i + 1) ∧ ∀ j,j < i → (E.q ^ (j + 1) - 1) % n ≠ 0
def WRn (E : FD) (n : Nat) : Prop := ∀ i,E.q ^ (i + 1) ≤ 64 → (E.q ^ (i + 1) - 1) % n ≠ 0
set_option maxHeartbeats 4000000 in
set_option maxRecDepth 100000 in
theorem withRoot_any {E : FD} (hE : E ∈ fieldsL) {n : Nat} (hn1 : 1 ≤ n) (hn : n ≤ 64) (w : World) :
   Calls Tryz.prog 36 #[.int .i64 E.q, .int .i64 (n : Nat)] w fun e w' => (∃ G F T g,e = .returned (.tuple #[.pointer (some ⟨F,0,none⟩), .int .i64 0]) ∧ WR E n G ∧ FAt F T G g w' ∧ w.heap.size ≤ F ∧ w.heap.size ≤ T ∧ Below w.heap.size w w') ∨ (e = .returned (.tuple #[.pointer none, .int .i64 4]) ∧ WRn E n ∧ w' = w) := by
 have hq2 := (fld hE).q2
 have hq64 := (good hE).q64
 obtain ⟨q,hq⟩ : ∃ q,q = E.q := ⟨_,rfl⟩
 rw [← hq] at hq2 hq64 ⊢
 have HE : Hid (E ∈ fieldsL ∧ q = E.q) := ⟨hE,hq⟩
 have hst : ((q : Nat) : Int) = ((q ^ (0 + 1) : Nat) : Int) := by simp
 clear hE hq
 go_enter Tryz.func36,Tryz.ntmps36
 go_wp2
 go_loopw [6] (fun vs wx => ∃ i s : Nat,vs = .int .i64 (s : Nat) ∧ s ≤ 4096 ∧ wx = w ∧ Hid (s = q ^ (i + 1) ∧ i < 7 ∧ ∀ j,j < i → (q ^ (j + 1) - 1) % n ≠ 0)) (fun vs _ => 4097 - (intOf vs).toNat)
 case atStart => exact ⟨0,q,rfl,by omega,rfl,by simp,by omega,fun j hj => absurd hj (by omega)⟩
 case round =>
   obtain ⟨i,s,rfl,hs,hwx,HI⟩ := hrel
   have hwx := hwx.symm
   subst hwx
   clear hst
   by_cases h64 : s ≤ 64
   · have hsi : (s : Int) ≤ 64 := by omega
     have hs1 : 1 ≤ s := by rw [HI.out.1]; exact Nat.pow_pos (by omega)
     obtain ⟨t,ht⟩ : ∃ t,t = s - 1 := ⟨_,rfl⟩
     have hti : (s : Int) - 1 = (t : Int) := by omega
     obtain ⟨r,hr⟩ : ∃ r,r = t % n := ⟨_,rfl⟩
     have hn0 : ¬ (n : Int) = 0 := by omega
     have hn0b : ((n : Int) == 0) = false := by rw [beq_eq_false_iff_ne]; omega
     have hrm : (t : Int).tmod (n : Int) = (r : Int) := by rw [Int.tmod_eq_emod_of_nonneg (by omega),hr]; omega
     have hre : (t : Int) % (n : Int) = (r : Int) := by rw [hr]; omega
     have hrb : r ≤ 64 := by rw [hr]; exact Nat.le_trans (Nat.mod_le _ _) (by omega)
     have htw : IntKind.i64.wrap (t : Int) = (t : Int) := wrap_to rfl (by omega)
     have HT : Hid (t = s - 1 ∧ r = t % n) := ⟨ht,hr⟩
     clear ht hr
     by_cases hr0 : r = 0
     · obtain ⟨G,hG,hGq,hGo⟩ := fld_of_pow HE.out.1 HI.out.2.1 (by rw [← HE.out.2, ← HI.out.1]; exact h64)
       have HW : Hid (WR E n G ∧ G.q = s) := by
         have e : G.q = s := by rw [hGq, ← HE.out.2, ← HI.out.1]
         refine ⟨⟨hG,hGo,by rw [e, ← HT.out.1, ← HT.out.2]; exact hr0,i,hGq,fun j hj => by rw [← HE.out.2]; exact HI.out.2.2 j hj⟩,e⟩
       have HN : Hid (Calls Tryz.prog 55 #[.int .i64 (s : Nat)] w fun e w' => ∃ F T g,e = .returned (.tuple #[.pointer (some ⟨F,0,none⟩), .int .i64 0]) ∧ FAt F T G g w' ∧ w.heap.size ≤ F ∧ w.heap.size ≤ T ∧ Below w.heap.size w w') := by
         rw [← HW.out.2]; exact new_any hG w
       clear hG hGq hGo
       subst hr0
       go_wp2_with fail
       refine HN.out.mono ?_
       rintro e w1 ⟨F,T,g,rfl,hF,h1,h2,hb⟩
       have H1 : Hid (FAt F T G g w1 ∧ w.heap.size ≤ F ∧ w.heap.size ≤ T ∧ Below w.heap.size w w1) := ⟨hF,h1,h2,hb⟩
       clear hF h1 h2 hb HN
       go_wp2
       go_ret2
       exact Or.inl ⟨G,F,T,g,rfl,HW.out.1,H1.out⟩
     · have hr0b : ((r : Int) == 0) = false := by rw [beq_eq_false_iff_ne]; omega
       obtain ⟨s2,hs2⟩ : ∃ s2,s2 = s * q := ⟨_,rfl⟩
       have hs2i : (s : Int) * (q : Int) = (s2 : Int) := by rw [hs2]; simp
       have hs2b : s2 ≤ 4096 := by rw [hs2]; exact Nat.le_trans (Nat.mul_le_mul h64 hq64) (by decide)
       have hs2w : IntKind.i64.wrap (s2 : Int) = (s2 : Int) := wrap_to rfl (by omega)
       have hs2g : s < s2 := by
         rw [hs2]
         have : s * 2 ≤ s * q := Nat.mul_le_mul_left s hq2
         omega
       have HN : Hid (s2 = q ^ (i + 1 + 1) ∧ i + 1 < 7 ∧ ∀ j,j < i + 1 → (q ^ (j + 1) - 1) % n ≠ 0) := by
         refine ⟨by rw [hs2,HI.out.1, ← Nat.pow_succ], ?_,fun j hj => ?_⟩
         · have h2 : 2 ^ (i + 1) ≤ 64 := Nat.le_trans (Nat.pow_le_pow_left hq2 _) (by rw [← HI.out.1]; exact h64)
           have : i + 1 ≤ 6 := by
             refine Classical.byContradiction fun c => ?_
             have : 2 ^ 7 ≤ 2 ^ (i + 1) := Nat.pow_le_pow_right (by omega) (by omega)
             omega
           omega
         · by_cases c : j = i
           · rw [c, ← HI.out.1, ← HT.out.1, ← HT.out.2]; exact hr0
           · exact HI.out.2.2 j (by omega)
       clear hs2
       go_wp2
       go_roundw
       case rel => exact ⟨i + 1,s2,by first | rfl | go_num,hs2b,by first | rfl | trivial,HN.out⟩
       case measure => simp [intOf]; omega
   · have hsi : ¬ (s : Int) ≤ 64 := by omega
     have HN : Hid (WRn E n) := fun j hj => by
       rw [← HE.out.2] at hj ⊢
       refine HI.out.2.2 j ?_
       refine Classical.byContradiction fun c => ?_
       have : q ^ (i + 1) ≤ q ^ (j + 1) := Nat.pow_le_pow_right (by omega) (by omega)
       have := HI.out.1
       omega
     go_wp2
     go_ret2
     exact Or.inr ⟨rfl,HN.out,rfl⟩
set_option maxHeartbeats 4000000 in
set_option maxRecDepth 100000 in
theorem toldOver_any {D E : FD} (hD : D ∈ fieldsL) (hE : E ∈ fieldsL) (h : E.p = D.p ∧ D.m % E.m = 0) {ao : Option Addr} {n ca : Nat} {c : Nat → Nat} {w : World} (hs : SlZ ao n (fun j => ((c j : Nat) : Int)) w) (hl : LtB ao w.heap.size) (hn : n ≤ 100) (hc : ∀ j, j < n → gtl D E (c j) < E.q ∧ D.emb E (D.root E) (gtl D E (c j)) = c j) :
   Calls Tryz.prog 42 #[.int .i64 E.q, .int .i64 D.q, .slice ao n ca] w fun e w' => ∃ v,e = .returned (.tuple #[v, .int .i64 0]) ∧ OwnI w.heap.size v (zl n fun j => ((gtl D E (c j) : Nat) : Int)) w' ∧ Below w.heap.size w w' := by
 have HEm : Hid (Calls Tryz.prog 87 #[.int .i64 E.q, .int .i64 D.q] w fun e w' => ∃ eo ec,e = .returned (.tuple #[.slice eo E.q ec, .int .i64 0]) ∧ ArgL eo E.q ec (fun i => ((D.emb E (D.root E) i : Nat) : Int)) w' ∧ Below w.heap.size w w') := by
   refine (embed_any hD hE w h).mono ?_
   rintro e w' ⟨v,rfl,ho,hb⟩
   obtain ⟨eo,ec,rfl,hA⟩ := ho.argOf (n := E.q) (by unfold FD.embL; rw [List.length_map,List.length_range])
   refine ⟨eo,ec,rfl,⟨fun i hi => ?_,hA.lt,hA.nil,hA.le,hA.cap⟩,hb⟩
   obtain ⟨b,off,e,k⟩ := hA.sl i hi
   refine ⟨b,off,e,k.trans ?_⟩
   show some (Value.int .i64 ((D.embL E).getD i 0)) = some (Value.int .i64 ((D.emb E (D.root E) i : Nat) : Int))
   unfold FD.embL
   rw [List.getD_eq_getElem?_getD,List.getElem?_map,List.getElem?_range hi]
   rfl
 have hq64 := (good hE).q64
 have HX : Hid ((SlZ ao n (fun j => ((c j : Nat) : Int)) w ∧ LtB ao w.heap.size) ∧ (∀ j,j < n → gtl D E (c j) < E.q ∧ D.emb E (D.root E) (gtl D E (c j)) = c j) ∧ ∀ a b,a < E.q → b < E.q → D.emb E (D.root E) a = D.emb E (D.root E) b → a = b) := ⟨⟨hs,hl⟩,hc,fun a b ha hb e => emb_inj hD hE h ha hb e⟩
 obtain ⟨Q,hQ⟩ : ∃ Q,Q = E.q := ⟨_,rfl⟩
 rw [← hQ] at HEm HX hq64 ⊢
 obtain ⟨P,hP⟩ : ∃ P,P = D.q := ⟨_,rfl⟩
 rw [← hP] at HEm ⊢
 clear hD hE h hs hl hc hQ hP
 go_enter Tryz.func42,Tryz.ntmps42
 go_wp2_with fail
 refine HEm.out.mono ?_
 rintro e w1 ⟨eo,ec,rfl,hA1,hb1⟩
 have H1 : Hid (ArgL eo Q ec (fun i => ((D.emb E (D.root E) i : Nat) : Int)) w1 ∧ Below w.heap.size w w1) := ⟨hA1,hb1⟩
 clear hA1 hb1 HEm
 go_wp2_with (at_make; refine make_int rfl _ _ rfl _ n rfl rfl rfl (by omega) ?_; intro w3 hown3 hgrow3)
 have hrz0 := rowE_zeros hown3
 obtain ⟨g,hg⟩ : ∃ g,g = w1.heap.size := ⟨_,rfl⟩
 rw [← hg] at hrz0
 try rw [← hg]
 have HI0 : Hid (RowE g n (fun _ => 0) w3 ∧ Below w1.heap.size w1 w3 ∧ g = w1.heap.size) := ⟨hrz0,below_grown hgrow3 (Nat.le_refl _) (fun k hk => by cases hk),hg⟩
 clear hown3 hgrow3 hrz0 hg
 go_loopw [27] (fun vi wr => ∃ (t : Nat) (oo : Nat → Int),t ≤ n ∧ vi = .int .i64 (t : Nat) ∧ Hid (RowE g n oo wr ∧ (∀ j,j < t → oo j = ((gtl D E (c j) : Nat) : Int)) ∧ Below w1.heap.size w1 wr)) (fun vi _ => n - (intOf vi).toNat)
 case atStart => exact ⟨0,_,by omega,rfl,HI0.out.1,fun j hj => absurd hj (by omega),HI0.out.2.1⟩
 case round =>
   obtain ⟨t,oo,ht,rfl,HG⟩ := hrel
   rename World => wr
   by_cases hlt : t < n
   · have hib : (t : Int) < (n : Int) := by omega
     have hib0 : (0 : Int) ≤ (t : Int) := by omega
     obtain ⟨b2,o2,e2,q2⟩ := HX.out.1.1 t hlt
     have l2 := HX.out.1.2 _ e2
     obtain ⟨x,hx⟩ : ∃ x,x = c t := ⟨_,rfl⟩
     obtain ⟨y,hy⟩ : ∃ y,y = gtl D E (c t) := ⟨_,rfl⟩
     have k2 : wr.cell? ⟨b2,o2 + t,none⟩ = some (.int .i64 (x : Nat)) := by
       rw [hx]
       have l3 : b2 < w.heap.size := l2
       exact (HG.out.2.2.cell (p := ⟨b2,o2 + t,none⟩) (by have := H1.out.2.size; show b2 < _; omega)).trans ((H1.out.2.cell (p := ⟨b2,o2 + t,none⟩) l3).trans q2)
     have HIx : Hid (Calls Tryz.prog 88 #[.slice eo Q ec, .int .i64 (x : Nat)] wr fun e w' => e = .returned (.int .i64 (y : Nat)) ∧ w' = wr) := by
       have hyq := HX.out.2.1 t hlt
       rw [← hy, ← hx] at hyq
       refine (indexI_any (z := fun i => ((D.emb E (D.root E) i : Nat) : Int)) (x : Int) (fun i hi => ?_) (by omega)).mono ?_
       · obtain ⟨b,off,e,k⟩ := H1.out.1.sl i hi
         exact ⟨b,off,e,(HG.out.2.2.cell (p := ⟨b,off + i,none⟩) (show b < w1.heap.size from H1.out.1.lt _ e)).trans k⟩
       · rintro e w' ⟨rfl,⟨i,hi,hz,rfl⟩ | ⟨hno,_⟩⟩
         · have : i = y := HX.out.2.2 i y hi hyq.1 (by have hz : ((D.emb E (D.root E) i : Nat) : Int) = (x : Int) := hz; omega)
           rw [this]; exact ⟨rfl,rfl⟩
         · exact absurd (by show ((D.emb E (D.root E) y : Nat) : Int) = (x : Int); rw [hyq.2]) (hno y hyq.1)
     have hc0 := RowF.cell HG.out.1 t hlt
     have hf0 := RowF.free HG.out.1 t
     obtain ⟨o0,ho0⟩ : ∃ o0,o0 = oo t := ⟨_,rfl⟩
     rw [← ho0] at hc0
     have HS2 : Hid (RowE g n (fun j => if j = t then (y : Int) else oo j) (wr.setCell ⟨g,t,none⟩ (.int .i64 (y : Nat))) ∧ (∀ j,j < t + 1 → (fun j => if j = t then (y : Int) else oo j) j = ((gtl D E (c j) : Nat) : Int)) ∧ Below w1.heap.size w1 (wr.setCell ⟨g,t,none⟩ (.int .i64 (y : Nat)))) := by
       refine ⟨RowE.store HG.out.1 t _,fun j hj => ?_,HG.out.2.2.setCell (by have := HI0.out.2.2; show _ ≤ g; omega) _⟩
       dsimp only
       by_cases e : j = t
       · rw [if_pos e,hy,e]
       · rw [if_neg e]; exact HG.out.2.1 j (by omega)
     subst e2
     clear ho0 hx hy q2 l2
     go_wp2_with fail
     refine HIx.out.mono ?_
     rintro e w' ⟨rfl,hw⟩
     have hw := hw.symm
     subst hw
     go_wp2
     go_roundw
     case rel => exact ⟨t + 1,_,by omega,by go_num,HS2.out⟩
     case measure => simp [intOf]; omega
   · have hib : ¬ (t : Int) < (n : Int) := by omega
     have hie : n = t := by omega
     subst hie
     have HF : Hid (OwnI w.heap.size (.slice (some ⟨g,0,none⟩) n n) (zl n fun j => ((gtl D E (c j) : Nat) : Int)) wr ∧ Below w.heap.size w wr) := by
       refine ⟨?_,bel_up' H1.out.2 HG.out.2.2⟩
       rw [← zl_congr (z := oo) HG.out.2.1]
       exact RowE.own HG.out.1 (by have := HI0.out.2.2; have := H1.out.2.size; omega) (by omega)
     clear HG
     go_wp2
     go_ret2
     exact ⟨_,rfl,HF.out⟩
def rvl (c : Nat → Nat) : Nat → List Nat
 | 0 => []
 | i + 1 => c i :: rvl c i
theorem rvl_len (c : Nat → Nat) : ∀ i,(rvl c i).length = i
 | 0 => rfl
 | i + 1 => by show (rvl c i).length + 1 = i + 1; rw [rvl_len c i]
theorem rvl_is (c : Nat → Nat) : ∀ i,rvl c i = ((List.range i).map c).reverse
 | 0 => rfl
 | i + 1 => by
   show c i :: rvl c i = _
   rw [List.range_succ,List.map_append,List.reverse_append,rvl_is c i]
   rfl
theorem nal_prL {D : FD} (F : Fld D) {c : Nat → Nat} {n : Nat} (hc : ∀ i,i < n → c i < D.q) : ∀ i,i ≤ n → nal D c i = prL D (rvl c i)
 | 0,_ => rfl
 | i + 1,hi => by
   rw [← nal_succ F hc (show i < n by omega),nal_prL F hc i (by omega)]
   show pmul D (i + 1) (prL D (rvl c i)) (xmr D (c i)) = pmul D ((rvl c i).length + 1) (prL D (rvl c i)) (lnf D (c i))
   rw [rvl_len]
   rfl
theorem map_range (f : Nat → Nat) (l : List Nat) : (List.range l.length).map (fun i => f (l.getD i 0)) = l.map f := by
 apply List.ext_getElem?
 intro i
 rw [List.getElem?_map,List.getElem?_map]
 by_cases h : i < l.length
 · rw [List.getElem?_range h,List.getElem?_eq_getElem h]
   show some (f (l.getD i 0)) = some (f l[i])
   rw [List.getD_eq_getElem?_getD,List.getElem?_eq_getElem h]
   rfl
 · rw [List.getElem?_eq_none (by rw [List.length_range]; omega),List.getElem?_eq_none (by omega)]
   rfl
theorem nal_gen {D : FD} (hD : D ∈ fieldsL) (b : Nat) (S : List Nat) : nal D (fun i => D.xp b (S.getD i 0)) S.length = prL D (S.map (D.xp b)) := by
 have F := fld hD
 rw [nal_prL F (n := S.length) (fun i _ => xp_lt F b _) S.length (Nat.le_refl _),rvl_is,map_range]
 exact prL_perm F (List.reverse_perm _) (fun r hr => by
   obtain ⟨j,_,rfl⟩ := List.mem_map.1 (List.mem_reverse.1 hr)
   exact xp_lt F b j)
theorem rsn_nd (n : Nat) (L : List Nat) : (rsn n L).Nodup := List.nodup_range.filter _
theorem rsn_lt {n : Nat} {L : List Nat} : ∀ k ∈ rsn n L,k < n := fun _ hk => List.mem_range.1 (List.mem_filter.1 hk).1
theorem rsn_mem {n : Nat} {L : List Nat} (hl : ∀ k ∈ L,k < n) (k : Nat) : k ∈ rsn n L ↔ k ∈ L := by
 unfold rsn
 rw [List.mem_filter,List.mem_range,List.contains_iff_mem]
 exact ⟨fun h => h.2,fun h => ⟨hl k h,h⟩⟩
theorem rsn_len {n : Nat} {L : List Nat} : (rsn n L).length ≤ n := nd_len (rsn_nd n L) rsn_lt
theorem rsn_cl {q n : Nat} {L : List Nat} (hl : ∀ k ∈ L,k < n) (hc : Clq q n L) : Clq q n (rsn n L) := fun k hk => (rsn_mem hl _).2 (hc k ((rsn_mem hl k).1 hk))
set_option maxHeartbeats 2000000 in
set_option maxRecDepth 100000 in
theorem cgen_e1 {q n e : Int} (he : e ≠ 0) {zo : Option Addr} {m zc : Nat} {w : World} (hC : Calls Tryz.prog 35 #[.int .i64 q, .int .i64 n, .slice zo m zc] w fun x w' => x = .returned (.int .i64 e) ∧ Below w.heap.size w w') :
   Calls Tryz.prog 10 #[.int .i64 q, .int .i64 n, .slice zo m zc] w fun x w' => x = .returned (.tuple #[.slice none 0 0, .int .i64 e]) ∧ Below w.heap.size w w' := by
 have HC : Hid (Calls Tryz.prog 35 #[.int .i64 q, .int .i64 n, .slice zo m zc] w fun x w' => x = .returned (.int .i64 e) ∧ Below w.heap.size w w') := hC
 have hz : (e != 0) = true := by rw [bne_iff_ne]; exact he
 clear hC he
 go_enter Tryz.func10,Tryz.ntmps10
 go_wp2_with fail
 refine HC.out.mono ?_
 rintro x w1 ⟨rfl,hb1⟩
 have H1 : Hid (Below w.heap.size w w1) := hb1
 clear hb1
 go_wp2
 go_ret2
 exact ⟨rfl,H1.out⟩
set_option maxHeartbeats 2000000 in
set_option maxRecDepth 100000 in
theorem cgen_e2 {q n : Int} {zo : Option Addr} {m zc : Nat} {w : World} (hC : Calls Tryz.prog 35 #[.int .i64 q, .int .i64 n, .slice zo m zc] w fun x w' => x = .returned (.int .i64 0) ∧ Below w.heap.size w w')
   (hR : ∀ w1,Calls Tryz.prog 36 #[.int .i64 q, .int .i64 n] w1 fun x w' => x = .returned (.tuple #[.pointer none, .int .i64 4]) ∧ w' = w1) :
   Calls Tryz.prog 10 #[.int .i64 q, .int .i64 n, .slice zo m zc] w fun x w' => x = .returned (.tuple #[.slice none 0 0, .int .i64 4]) ∧ Below w.heap.size w w' := by
 have HC : Hid (Calls Tryz.prog 35 #[.int .i64 q, .int .i64 n, .slice zo m zc] w fun x w' => x = .returned (.int .i64 0) ∧ Below w.heap.size w w') := hC
 have HR : Hid (∀ w1,Calls Tryz.prog 36 #[.int .i64 q, .int .i64 n] w1 fun x w' => x = .returned (.tuple #[.pointer none, .int .i64 4]) ∧ w' = w1) := hR
 clear hC hR
 go_enter Tryz.func10,Tryz.ntmps10
 go_wp2_with fail
 refine HC.out.mono ?_
 rintro x w1 ⟨rfl,hb1⟩
 have H1 : Hid (Below w.heap.size w w1) := hb1
 clear hb1
 go_wp2_with fail
 refine (HR.out w1).mono ?_
 rintro x w' ⟨rfl,hw⟩
 have hw := hw.symm
 subst hw
 go_wp2
 go_ret2
 exact ⟨rfl,H1.out⟩
set_option maxHeartbeats 8000000 in
set_option maxRecDepth 100000 in
theorem cgen_ok {E G : FD} (hE : E ∈ fieldsL) {n m zc : Nat} {zo : Option Addr} {z : Nat → Nat} {w : World} (hW : WR E n G) (hO : Ord E.q n) (hn1 : 1 ≤ n) (hn : n ≤ 64) (hm : m ≤ 64) (hz : SlZ zo m (fun i => ((z i : Nat) : Int)) w) (hzl : LtB zo w.heap.size) (hzn : ∀ i, i < m → z i < n)
   (hC : Calls Tryz.prog 35 #[.int .i64 E.q, .int .i64 (n : Nat), .slice zo m zc] w fun x w' => x = .returned (.int .i64 0) ∧ Below w.heap.size w w')
   (hR : ∀ w1,Calls Tryz.prog 36 #[.int .i64 E.q, .int .i64 (n : Nat)] w1 fun e w' => ∃ F T g,e = .returned (.tuple #[.pointer (some ⟨F,0,none⟩), .int .i64 0]) ∧ FAt F T G g w' ∧ Below w1.heap.size w1 w') :
   Calls Tryz.prog 10 #[.int .i64 E.q, .int .i64 (n : Nat), .slice zo m zc] w fun x w' => ∃ v L,x = .returned (.tuple #[v, .int .i64 0]) ∧ TgL E.q n z m L ∧ OwnI w.heap.size v (zl ((rsn n L).length + 1) fun k => ((gnr G E (G.xp G.gen ((G.q - 1) / n)) (rsn n L) k : Nat) : Int)) w' ∧ Below w.heap.size w w' := by
 have hG := hW.fld
 have HC : Hid (Calls Tryz.prog 35 #[.int .i64 E.q, .int .i64 (n : Nat), .slice zo m zc] w fun x w' => x = .returned (.int .i64 0) ∧ Below w.heap.size w w') := hC
 have HR : Hid (∀ w1,Calls Tryz.prog 36 #[.int .i64 E.q, .int .i64 (n : Nat)] w1 fun e w' => ∃ F T g,e = .returned (.tuple #[.pointer (some ⟨F,0,none⟩), .int .i64 0]) ∧ FAt F T G g w' ∧ Below w1.heap.size w1 w') := hR
 have HZ : Hid ((SlZ zo m (fun i => ((z i : Nat) : Int)) w ∧ LtB zo w.heap.size) ∧ (∀ i,i < m → z i < n) ∧ E ∈ fieldsL ∧ WR E n G ∧ Ord E.q n ∧ G ∈ fieldsL) := ⟨⟨hz,hzl⟩,hzn,hE,hW,hO,hG⟩
 have hqE := (good hE).q64
 have hqG := (good hG).q64
 have hqG2 := (fld hG).q2
 have hgen := gen_ne hG
 obtain ⟨b,hb⟩ : ∃ b,b = G.xp G.gen ((G.q - 1) / n) := ⟨_,rfl⟩
 rw [← hb]
 obtain ⟨Q,hQ⟩ : ∃ Q,Q = G.q := ⟨_,rfl⟩
 obtain ⟨q,hq⟩ : ∃ q,q = E.q := ⟨_,rfl⟩
 obtain ⟨s1,hs1⟩ : ∃ s1,s1 = Q - 1 := ⟨_,rfl⟩
 obtain ⟨d,hd⟩ : ∃ d,d = s1 / n := ⟨_,rfl⟩
 have HB : Hid (b = G.xp G.gen d ∧ b < Q ∧ d ≤ 64 ∧ Q = G.q ∧ q = E.q ∧ Rt G b n) := by
   have e : b = G.xp G.gen d := by rw [hb,hd,hs1,hQ]
   refine ⟨e,by rw [e,hQ]; exact xp_lt (fld hG) _ _,by rw [hd]; exact Nat.le_trans (Nat.div_le_self _ _) (by omega),hQ,hq, ?_⟩
   rw [hb, ← pw_xp hG hgen.2]
   exact root_rt hG hW.root
 have hs1i : (Q : Int) - 1 = (s1 : Int) := by omega
 have hs1w : IntKind.i64.wrap (s1 : Int) = (s1 : Int) := wrap_to rfl (by omega)
 have hdd : d ≤ 64 := HB.out.2.2.1
 have htd : (s1 : Int).tdiv (n : Int) = (d : Int) := by rw [Int.tdiv_eq_ediv_of_nonneg (by omega),hd]; omega
 have hdv : (s1 : Int) / (n : Int) = (d : Int) := by rw [hd]; omega
 have hdw : IntKind.i64.wrap (d : Int) = (d : Int) := wrap_to rfl (by omega)
 have hn0 : ¬ (n : Int) = 0 := by omega
 have hn0b : ((n : Int) == 0) = false := by rw [beq_eq_false_iff_ne]; omega
 have hg1 := hgen.1
 rw [← hQ] at hqG hg1
 rw [← hq] at hqE HC HR ⊢
 clear hC hR hz hzl hzn hW hO hG hE hgen hQ hq hs1 hd hb hqG2
 go_enter Tryz.func10,Tryz.ntmps10
 go_wp2_with fail
 refine HC.out.mono ?_
 rintro x w1 ⟨rfl,hb1⟩
 have H1 : Hid (Below w.heap.size w w1) := hb1
 clear hb1 HC
 go_wp2_with fail
 refine (HR.out w1).mono ?_
 rintro x w2 ⟨F,T,g,rfl,hF,hb2⟩
 have H2 : Hid (FAt F T G g w2 ∧ Below w.heap.size w w2) := ⟨hF,bel_up' H1.out hb2⟩
 clear hF hb2 HR
 have HGn : Hid (Calls Tryz.prog 38 #[.pointer (some ⟨F,0,none⟩)] w2 fun e w' => e = .returned (.int .i64 G.gen) ∧ w' = w2) := gen_any H2.out.1
 have HSz : Hid (∀ wx,FAt F T G g wx → Calls Tryz.prog 39 #[.pointer (some ⟨F,0,none⟩)] wx fun e w' => e = .returned (.int .i64 (Q : Nat)) ∧ w' = wx) := fun wx h => by rw [HB.out.2.2.2.1]; exact size_any h
 have HPw : Hid (∀ wx,FAt F T G g wx → ∀ a k : Nat,a < Q → k ≤ 1000 → Calls Tryz.prog 37 #[.pointer (some ⟨F,0,none⟩), .int .i64 (a : Nat), .int .i64 (k : Nat)] wx fun e w' => e = .returned (.int .i64 (G.xp a k : Nat)) ∧ ∃ n,w' = wx.drewN n) := fun wx h a k ha hk => pow_nat HZ.out.2.2.2.2.2 h (by rw [← HB.out.2.2.2.1]; exact ha) k hk
 go_wp2_with fail
 refine HGn.out.mono ?_
 rintro x w' ⟨rfl,hw⟩
 have hw := hw.symm
 subst hw
 clear HGn
 go_wp2_with fail
 refine (HSz.out w2 H2.out.1).mono ?_
 rintro x w' ⟨rfl,hw⟩
 have hw := hw.symm
 subst hw
 go_wp2_with fail
 refine (HPw.out w2 H2.out.1 G.gen d hg1 (by omega)).mono ?_
 rw [← HB.out.1]
 rintro x w3 ⟨rfl,nn,hw3⟩
 have H3 : Hid (FAt F T G g w3 ∧ Below w.heap.size w w3) := by rw [hw3]; exact ⟨H2.out.1.drewN nn,below_drewN2 H2.out.2 nn⟩
 clear hw3
 obtain ⟨w4,hw4⟩ : ∃ w4,w4 = w3.alloc (.cells #[.int .i64 1] 3) := ⟨_,rfl⟩
 obtain ⟨g4,hg4⟩ : ∃ g4,g4 = w3.heap.size := ⟨_,rfl⟩
 have H4 : Hid (FAt F T G g w4 ∧ Below w.heap.size w w4 ∧ Arg (some ⟨g4,0,none⟩) 1 1 (fun j => ((nal G (fun _ => 0) 0 j : Nat) : Int)) w4) := by
   have hb4 : Below w3.heap.size w3 w4 := by rw [hw4]; exact (Below.refl _ _).alloc (Nat.le_refl _) _
   refine ⟨H3.out.1.below hb4 H3.out.1.ltF H3.out.1.ltT,bel_up' H3.out.2 hb4,⟨fun j hj => ⟨g4,0,rfl, ?_⟩,fun x hx => by cases hx; rw [hw4,hg4]; simp,by omega,fun e => (by cases e),by omega,by omega⟩⟩
   have : j = 0 := by omega
   subst this
   rw [hw4,hg4]
   show (w3.alloc (.cells #[.int .i64 1] 3)).cell? ⟨w3.heap.size,0,none⟩ = some (Value.int .i64 ((1 : Nat) : Int))
   exact two_cell w3 _
 have HTo : Hid (Calls Tryz.prog 32 #[.int .i64 (q : Nat), .int .i64 (n : Nat), .slice zo m zc] w4 fun e w' => ∃ L,e = .returned (.map (some w4.heap.size)) ∧ Tg w4.heap.size L w' ∧ TgL q n z m L ∧ Below w4.heap.size w4 w') := by
   refine cytog_any hqE hn1 hn (by omega) (fun i hi => ?_) (fun a e => ?_) HZ.out.2.1
   · obtain ⟨b',off,e,k⟩ := HZ.out.1.1 i hi
     exact ⟨b',off,e,(H4.out.2.1.cell (p := ⟨b',off + i,none⟩) (show b' < w.heap.size from HZ.out.1.2 _ e)).trans k⟩
   · have := HZ.out.1.2 a e
     have := H4.out.2.1.size
     omega
 go_wp2_with fail
 rw [← hw4]
 try rw [← hg4]
 clear hw4 hg4
 refine HTo.out.mono ?_
 rintro x w5 ⟨L,rfl,hT5,hL5,hb5⟩
 have HL : Hid (TgL q n z m L) := hL5
 have H5 : Hid (Below w4.heap.size w4 w5) := hb5
 have HRi : Hid (Calls Tryz.prog 31 #[.map (some w4.heap.size)] w5 fun e w' => ∃ lo lc,e = .returned (.slice lo (rsn n L).length lc) ∧ ArgL lo (rsn n L).length lc (fun i => (((rsn n L).getD i 0 : Nat) : Int)) w' ∧ Below w5.heap.size w5 w') := by
   refine (rising_any hT5 hL5.nd hL5.lt hn).mono ?_
   rintro e w' ⟨v,rfl,ho,hb⟩
   obtain ⟨lo,lc,rfl,hA⟩ := ho.argOf (n := (rsn n L).length) (by rw [List.length_map])
   refine ⟨lo,lc,rfl,⟨fun i hi => ?_,hA.lt,hA.nil,hA.le,hA.cap⟩,hb⟩
   obtain ⟨b',off,e,k⟩ := hA.sl i hi
   refine ⟨b',off,e,k.trans ?_⟩
   show some (Value.int .i64 (((rsn n L).map fun j => ((j : Nat) : Int)).getD i 0)) = some (Value.int .i64 (((rsn n L).getD i 0 : Nat) : Int))
   rw [List.getD_eq_getElem?_getD,List.getD_eq_getElem?_getD,List.getElem?_map,List.getElem?_eq_getElem hi]
   rfl
 clear hT5 hL5 hb5 HTo
 go_wp2_with fail
 refine HRi.out.mono ?_
 rintro x w6 ⟨lo,lc,rfl,hA6,hb6⟩
 obtain ⟨S,hS⟩ : ∃ S,S = rsn n L := ⟨_,rfl⟩
 rw [← hS] at hA6
 rw [← hS]
 obtain ⟨N,hN⟩ : ∃ N,N = S.length := ⟨_,rfl⟩
 rw [← hN] at hA6
 rw [← hN]
 have hN64 : N ≤ 64 := by rw [hN,hS]; exact Nat.le_trans rsn_len hn
 obtain ⟨c,hc⟩ : ∃ c : Nat → Nat,c = fun i => G.xp b (S.getD i 0) := ⟨_,rfl⟩
 have hb46 : Below w4.heap.size w4 w6 := bel_up' H5.out hb6
 have H6 : Hid (ArgL lo N lc (fun i => ((S.getD i 0 : Nat) : Int)) w6 ∧ Below w.heap.size w w6 ∧ FAt F T G g w6 ∧ Arg (some ⟨g4,0,none⟩) 1 1 (fun j => ((nal G c 0 j : Nat) : Int)) w6) := ⟨hA6,bel_up' H4.out.2.1 hb46,H4.out.1.below hb46 H4.out.1.ltF H4.out.1.ltT,H4.out.2.2.below hb46⟩
 have HS : Hid (S = rsn n L ∧ N = S.length ∧ c = (fun i => G.xp b (S.getD i 0)) ∧ (∀ i,i < N → c i < G.q) ∧ ∀ i,i < N → S.getD i 0 < n) := by
   refine ⟨hS,hN,hc,fun i _ => by rw [hc]; exact xp_lt (fld HZ.out.2.2.2.2.2) _ _,fun i hi => ?_⟩
   have hm' : S.getD i 0 ∈ S := by
     rw [List.getD_eq_getElem?_getD,List.getElem?_eq_getElem (by rw [← hN]; exact hi)]
     exact List.getElem_mem _
   rw [hS] at hm' ⊢
   exact rsn_lt _ hm'
 clear hS hN hA6 hb6 hb46 hc HRi
 go_wp2
 go_loopw [10,12,47] (fun ve vo vi wr => ∃ (i : Nat) (ao : Option Addr) (ca : Nat),i ≤ N ∧ ve = .int .i64 0 ∧ vo = .slice ao (i + 1 : Nat) ca ∧ vi = .int .i64 (i : Nat) ∧ Hid (Arg ao (i + 1) ca (fun j => ((nal G c i j : Nat) : Int)) wr ∧ Below w6.heap.size w6 wr)) (fun _ _ vi _ => N - (RowKit.intOf vi).toNat)
 case atStart => exact ⟨0,_,_,by omega,rfl,rfl,rfl,H6.out.2.2.2,Below.refl _ _⟩
 case round =>
   obtain ⟨i,ao,ca,hi,rfl,rfl,rfl,HI⟩ := hrel
   rename World => wr
   have hatr : Hid (FAt F T G g wr) := H6.out.2.2.1.below HI.out.2 H6.out.2.2.1.ltF H6.out.2.2.1.ltT
   by_cases hlt : i < N
   · have hib : (i : Int) < (N : Int) := by omega
     have hi0 : (0 : Int) ≤ (i : Int) := by omega
     obtain ⟨bx,ox,hxo,cx0⟩ := H6.out.1.sl i hlt
     have lx := H6.out.1.lt _ hxo
     obtain ⟨k,hk⟩ : ∃ k,k = S.getD i 0 := ⟨_,rfl⟩
     have cx : wr.cell? ⟨bx,ox + i,none⟩ = some (.int .i64 (k : Nat)) := by rw [hk]; exact (HI.out.2.cell (p := ⟨bx,ox + i,none⟩) lx).trans cx0
     obtain ⟨x,hx⟩ : ∃ x,x = G.xp b k := ⟨_,rfl⟩
     have HX : Hid (x = c i ∧ x < G.q ∧ x = G.xp b k ∧ k ≤ 1000) := by
       refine ⟨by rw [hx,hk,HS.out.2.2.1],by rw [hx]; exact xp_lt (fld HZ.out.2.2.2.2.2) _ _,hx, ?_⟩
       have := HS.out.2.2.2.2 i hlt
       rw [← hk] at this
       omega
     subst hxo
     clear hk hx lx cx0
     go_wp2_with fail
     refine (HSz.out wr hatr.out).mono ?_
     rintro e w' ⟨rfl,hw⟩
     have hw := hw.symm
     subst hw
     go_wp2_with fail
     refine (HPw.out wr hatr.out b k HB.out.2.1 HX.out.2.2.2).mono ?_
     rw [← HX.out.2.2.1]
     rintro e w7 ⟨rfl,nn,hw7⟩
     have H7 : Hid (FAt F T G g w7 ∧ Below wr.heap.size wr w7) := by rw [hw7]; exact ⟨hatr.out.drewN nn,below_drewN2 (Below.refl _ _) nn⟩
     clear hw7
     have HNg : Hid (Calls Tryz.prog 41 #[.pointer (some ⟨F,0,none⟩), .int .i64 (x : Nat)] w7 fun e w' => e = .returned (.int .i64 (G.ng x : Nat)) ∧ ∃ n,w' = w7.drewN n) := neg_nat HZ.out.2.2.2.2.2 H7.out.1 HX.out.2.1
     go_wp2_with fail
     refine HNg.out.mono ?_
     rintro e w8 ⟨rfl,n8,hw8⟩
     have H8 : Hid (Below wr.heap.size wr w8) := by rw [hw8]; exact below_drewN2 H7.out.2 n8
     clear hw8 HNg
     obtain ⟨w9,hw9⟩ : ∃ w9,w9 = w8.alloc (.cells #[.int .i64 (G.ng x : Nat), .int .i64 1] 3) := ⟨_,rfl⟩
     obtain ⟨g8,hg8⟩ : ∃ g8,g8 = w8.heap.size := ⟨_,rfl⟩
     have H9 : Hid (Below wr.heap.size wr w9 ∧ Arg (some ⟨g8,0,none⟩) 2 2 (fun j => ((xmr G x j : Nat) : Int)) w9) := by
       rw [hw9,hg8]
       refine ⟨H8.out.alloc H8.out.size _,fun j hj => ⟨w8.heap.size,0,rfl, ?_⟩,fun y hy => by cases hy; simp,by omega,fun e => (by cases e),by omega,by omega⟩
       have : j = 0 ∨ j = 1 := by omega
       rcases this with rfl | rfl
       · exact (duo_cell w8 _ _).1
       · exact (duo_cell w8 _ _).2
     have HM : Hid (Calls Tryz.prog 40 #[.int .i64 (Q : Nat), .slice ao (i + 1 : Nat) ca, .slice (some ⟨g8,0,none⟩) 2 2] w9 fun e w' => ∃ mo mc,e = .returned (.tuple #[.slice mo (i + 1 + 1 : Nat) mc, .int .i64 0]) ∧ Arg mo (i + 1 + 1) mc (fun j => ((nal G c (i + 1) j : Nat) : Int)) w' ∧ Below w9.heap.size w9 w') := by
       have hG := HZ.out.2.2.2.2.2
       have F' := fld hG
       obtain ⟨n1,n2,n3,_⟩ := nal_ok F' HS.out.2.2.2.1 i hi
       obtain ⟨m1,m2,m3,_⟩ := nal_ok F' HS.out.2.2.2.1 (i + 1) (by omega)
       have hxe := xmr_el F' HX.out.2.1
       have z1 : Go.Proofs.YtppggchhkckobaaGreat.zc (i + 1) (fun j => ((nal G c i j : Nat) : Int)) = nal G c i := zc_nat n2
       have z2 : Go.Proofs.YtppggchhkckobaaGreat.zc 2 (fun j => ((xmr G x j : Nat) : Int)) = xmr G x := zc_nat (xmr_bd x)
       have hck : G.chk2 (i + 1) (fun j => ((nal G c i j : Nat) : Int)) 2 (fun j => ((xmr G x j : Nat) : Int)) = 0 := by
         unfold FD.chk2
         rw [if_pos (chk_nat n1 (by omega))]
         exact chk_nat hxe (by omega)
       have d1 : dgn (nal G c i) (i + 1) = i + 1 := dgn_self (fun _ => by rw [Nat.add_sub_cancel,n3]; omega)
       have d2 : dgn (xmr G x) 2 = 2 := dgn_self (fun _ => by show xmr G x 1 ≠ 0; unfold xmr; simp)
       have hp : pmul G (i + 1) (nal G c i) (xmr G x) = nal G c (i + 1) := by rw [HX.out.1]; exact nal_succ F' HS.out.2.2.2.1 hlt
       rw [HB.out.2.2.2.1]
       refine (pmul_any hG (HI.out.1.below H9.out.1) H9.out.2).mono ?_
       rw [z1,z2,d1,d2,hp]
       rintro e w' ⟨hb',⟨_,_,v,rfl,hv⟩ | ⟨_,hbad,_⟩ | ⟨hbad,_⟩⟩
       · have d3 : dgn (nal G c (i + 1)) (i + 1 + 2) = i + 1 + 1 := dgn_is (m2.mono (by omega)) m2 (fun _ => by rw [Nat.add_sub_cancel,m3]; omega)
         rw [d3] at hv
         obtain ⟨mo,mc,rfl,hA⟩ := hv.arg (by omega)
         exact ⟨mo,mc,rfl,hA,hb'⟩
       · omega
       · exact absurd hck hbad
     go_wp2_with fail
     rw [← hw9]
     try rw [← hg8]
     clear hw9 hg8
     refine HM.out.mono ?_
     rintro e y1 ⟨mo,mc,rfl,hA4,hb4⟩
     have HY : Hid (Arg mo (i + 1 + 1) mc (fun j => ((nal G c (i + 1) j : Nat) : Int)) y1 ∧ Below w6.heap.size w6 y1) := ⟨hA4,bel_up' (bel_up' HI.out.2 H9.out.1) hb4⟩
     clear hA4 hb4
     go_wp2
     go_roundw
     case rel => exact ⟨i + 1,mo,mc,by omega,rfl,rfl,by go_num,HY.out⟩
     case measure => simp [RowKit.intOf]; omega
   · have hib : ¬ (i : Int) < (N : Int) := by omega
     have hie : N = i := by omega
     subst hie
     have HTo : Hid (Calls Tryz.prog 42 #[.int .i64 (q : Nat), .int .i64 (Q : Nat), .slice ao (N + 1 : Nat) ca] wr fun e w' => ∃ v,e = .returned (.tuple #[v, .int .i64 0]) ∧ OwnI wr.heap.size v (zl (N + 1) fun k => ((gnr G E b S k : Nat) : Int)) w' ∧ Below wr.heap.size wr w') := by
       have hG := HZ.out.2.2.2.2.2
       have e1 : nal G c N = prL G (S.map (G.xp b)) := by rw [HS.out.2.1,HS.out.2.2.1]; exact nal_gen hG b S
       have hcl : Clq E.q n S := by rw [HS.out.1, ← HB.out.2.2.2.2.1]; exact rsn_cl HL.out.lt HL.out.cl
       have hnd : S.Nodup := by rw [HS.out.1]; exact rsn_nd n L
       have hlt' : ∀ k ∈ S,k < n := by rw [HS.out.1]; exact rsn_lt
       have h := toldOver_any (ca := ca) hG HZ.out.2.2.1 HZ.out.2.2.2.1.over HI.out.1.sl HI.out.1.lt (show N + 1 ≤ 100 by omega) (fun j _ => by
         rw [e1]
         exact gtl_is hG HZ.out.2.2.1 HZ.out.2.2.2.1.over (prL_el (fld hG) _ j) (prod_fix hG HZ.out.2.2.1 HZ.out.2.2.2.1.over HB.out.2.2.2.2.2 HZ.out.2.2.2.2.1 hnd hlt' hcl j))
       rw [e1, ← HB.out.2.2.2.1, ← HB.out.2.2.2.2.1] at h
       exact h
     go_wp2_with fail
     refine (HSz.out wr hatr.out).mono ?_
     rintro e w' ⟨rfl,hw⟩
     have hw := hw.symm
     subst hw
     go_wp2_with fail
     refine HTo.out.mono ?_
     rintro e y2 ⟨v,rfl,ho,hb⟩
     have HY : Hid (OwnI w.heap.size v (zl (N + 1) fun k => ((gnr G E b S k : Nat) : Int)) y2 ∧ Below w.heap.size w y2) := by
       have hbw := bel_up' H6.out.2.1 HI.out.2
       exact ⟨ho.mono hbw.size,bel_up' hbw hb⟩
     clear ho hb HTo
     go_wp2
     go_ret2
     refine ⟨v,L,rfl,HL.out, ?_,HY.out.2⟩
     rw [← HS.out.1, ← HS.out.2.1]
     exact HY.out.1
end Go.Proofs.YtppggchhkckobaaGreat
