/- Texts of ours, one behind the other: R13 R18 R14 B4 B5 B6 R15 M7 R16 R17 B7 B8 M8 M9 G1 N1 N2 N3 N4 U1 U2 W4 U3 U4. -/
import Derived.Test.YtinmkgohganllaaGreatDoorZR5
import Derived.Test.YtinmkgohganllaaGreatDoorZM3
import Derived.Deep.RegionWith
import Derived.Deep.RegionHeld3
import Derived.StillTail
import Derived.Deep.QuietTactic
import Derived.BigQuiet
import Derived.WalkKit
import Derived.Laws.CopyOwn
import Derived.Laws.AppendOwnNone
namespace Go.Proofs.YtinmkgohganllaaGreatDoor
open Go.RowKit
def SliceI (v : Value) (l : List Int) (w : World) : Prop :=
 (l = [] ∧ ∃ ao cap,v = .slice ao 0 cap) ∨ (l ≠ [] ∧ l.length ≤ 1000000 ∧ ∃ b off cap,v = .slice (some ⟨b,off,none⟩) l.length cap ∧ ∀ j,j < l.length → w.cell? ⟨b,off + j,none⟩ = some (.int .i64 (l.getD j 0)))
theorem OwnI.slice {base : Nat} {v : Value} {l : List Int} {w : World} (h : OwnI base v l w) (hl : l.length ≤ 1000000) : SliceI v l w := by
 by_cases e : l = []
 · refine Or.inl ⟨e, ?_⟩
   rcases h.2 with ⟨h1,_⟩ | ⟨g,cap,cur,hv,_⟩
   · exact ⟨none,0,h1⟩
   · rw [e] at hv; exact ⟨_,cap,hv⟩
 · obtain ⟨g,cap,hv,_,_,hc,_⟩ := h.at e
   exact Or.inr ⟨e,hl,g,0,cap,hv,fun j hj => by rw [Nat.zero_add]; exact hc j hj⟩
theorem SliceI.below {B : Nat} {v : Value} {l : List Int} {w w' : World} (h : SliceI v l w) (hb : Below B w w') (hB : ∀ k,v.ownBlock = some k → k < B) : SliceI v l w' := by
 rcases h with h | ⟨h1,h2,b,off,cap,rfl,hc⟩
 · exact Or.inl h
 · exact Or.inr ⟨h1,h2,b,off,cap,rfl,fun j hj => ((bcell hb).1 b (off + j) (hB b rfl)).trans (hc j hj)⟩
theorem SliceI.drewN {v : Value} {l : List Int} {w : World} (h : SliceI v l w) (n : Nat) : SliceI v l (w.drewN n) := h
theorem list_ext_getD (l m : List Int) (h : l.length = m.length) (e : ∀ j,j < l.length → l.getD j 0 = m.getD j 0) : l = m := by
 apply List.ext_getElem h
 intro i h1 h2
 have := e i h1
 rwa [List.getD_eq_getElem?_getD,List.getD_eq_getElem?_getD,List.getElem?_eq_getElem h1,List.getElem?_eq_getElem h2] at this
set_option maxHeartbeats 2000000 in
theorem same_any {va vb : Value} {la lb : List Int} {w : World} (ha : SliceI va la w) (hb : SliceI vb lb w) :
   Calls Tryz.prog 39 #[va,vb] w fun e w' => e = .returned (.bool (decide (la = lb))) ∧ ∃ n,w' = w.drewN n := by
 by_cases hlen : la.length = lb.length
 · rcases ha with ⟨rfl,ao,ca,rfl⟩ | ⟨h1,h2,b,off,cap,rfl,hc⟩
   · have h0 : lb = [] := List.length_eq_zero_iff.1 hlen.symm
     subst h0
     rcases hb with ⟨_,bo,cb,rfl⟩ | ⟨h3,_⟩
     · clear hlen
       go_enter Tryz.func39,Tryz.ntmps39
       go_wp2
       refine wp_loop_rounds 1 ?_
       rw [rounds_succ]
       go_wp2
       go_ret
       exact ⟨rfl,0,rfl⟩
     · exact absurd rfl h3
   · rcases hb with ⟨rfl,bo,cb,rfl⟩ | ⟨h3,h4,b',off',cap',rfl,hc'⟩
     · exact absurd (List.length_eq_zero_iff.1 hlen) h1
     · obtain ⟨n,hn⟩ : ∃ n,n = la.length := ⟨_,rfl⟩
       rw [← hlen, ← hn]
       have HC : Hid ((∀ j,j < n → w.cell? ⟨b,off + j,none⟩ = some (.int .i64 (la.getD j 0))) ∧ (∀ j,j < n → w.cell? ⟨b',off' + j,none⟩ = some (.int .i64 (lb.getD j 0)))) := ⟨fun j hj => hc j (by omega),fun j hj => hc' j (by omega)⟩
       have HL : Hid (n = la.length ∧ la.length = lb.length) := ⟨hn,hlen⟩
       have hnb : n ≤ 1000000 := by omega
       clear hc hc' h1 h2 h3 h4 hlen hn
       go_enter Tryz.func39,Tryz.ntmps39
       go_wp2
       go_loopw [5] (fun i wr => ∃ k : Nat,k ≤ n ∧ i = .int .i64 k ∧ Hid (∀ j,j < k → la.getD j 0 = lb.getD j 0) ∧ ∃ d,wr = w.drewN d) (fun i _ => n - (intOf i).toNat)
       case atStart => exact ⟨0,by omega,rfl,fun j hj => by omega,0,rfl⟩
       case round =>
         obtain ⟨k,hk,rfl,HK,d,rfl⟩ := hrel
         by_cases hlt : k < n
         · have c1 := HC.out.1 k hlt
           have c2 := HC.out.2 k hlt
           obtain ⟨x,hx⟩ : ∃ x,x = la.getD k 0 := ⟨_,rfl⟩
           obtain ⟨y,hy⟩ : ∃ y,y = lb.getD k 0 := ⟨_,rfl⟩
           rw [← hx] at c1
           rw [← hy] at c2
           have HX : Hid (x = la.getD k 0 ∧ y = lb.getD k 0) := ⟨hx,hy⟩
           clear hx hy
           by_cases he : x = y
           · have hb : (x != y) = false := by rw [he]; simp
             have HK2 : Hid (∀ j,j < k + 1 → la.getD j 0 = lb.getD j 0) := fun j hj => if e : j = k then by rw [e, ← HX.out.1, ← HX.out.2,he] else HK.out j (by omega)
             clear he
             go_wp2
             go_quiet (fail)
             go_wp2
             go_roundw
             case rel => exact ⟨k + 1,by omega,by go_num,HK2.out,_,rfl⟩
             case measure => simp [intOf]; omega
           · have hb : (x != y) = true := by rw [bne_iff_ne]; exact he
             have HV : Hid (decide (la = lb) = false) := by
               show _ = _
               rw [decide_eq_false_iff_not]; intro e; exact he (by rw [HX.out.1,HX.out.2,e])
             clear he
             go_wp2
             go_quiet (fail)
             go_wp2
             go_ret
             exact ⟨ret_bool (by rw [HV.out]),_,by rw [World.drewN_drewN]⟩
         · have HV : Hid (decide (la = lb) = true) := by
             show _ = _
             rw [decide_eq_true_eq]; exact list_ext_getD la lb HL.out.2 (fun j hj => HK.out j (by have := HL.out.1; omega))
           go_wp2
           go_ret
           exact ⟨ret_bool (by rw [HV.out]),_,rfl⟩
 · have HV : Hid (decide (la = lb) = false) := by
     show _ = _
     rw [decide_eq_false_iff_not]; intro e; exact hlen (by rw [e])
   obtain ⟨ao,ca,ea⟩ : ∃ ao ca,va = .slice ao la.length ca := by
     rcases ha with ⟨rfl,ao,ca,rfl⟩ | ⟨_,_,b,off,cap,rfl,_⟩
     · exact ⟨ao,ca,rfl⟩
     · exact ⟨_,cap,rfl⟩
   obtain ⟨bo,cb,eb⟩ : ∃ bo cb,vb = .slice bo lb.length cb := by
     rcases hb with ⟨rfl,ao,ca,rfl⟩ | ⟨_,_,b,off,cap,rfl,_⟩
     · exact ⟨ao,ca,rfl⟩
     · exact ⟨_,cap,rfl⟩
   subst ea eb
   have hne : (((la.length : Nat) : Int) != ((lb.length : Nat) : Int)) = true := by rw [bne_iff_ne]; exact_mod_cast hlen
   generalize la.length = n at *
   generalize lb.length = m at *
   clear ha hb hlen
   go_enter Tryz.func39,Tryz.ntmps39
   go_wp2
   go_ret
   exact ⟨ret_bool (by rw [HV.out]),0,rfl⟩
theorem mem_getD {l : List Int} {x : Int} : x ∈ l ↔ ∃ j,j < l.length ∧ l.getD j 0 = x := by
 constructor
 · intro h
   obtain ⟨j,hj,e⟩ := List.getElem_of_mem h
   exact ⟨j,hj,by rw [List.getD_eq_getElem?_getD,List.getElem?_eq_getElem hj]; exact e⟩
 · rintro ⟨j,hj,e⟩
   rw [List.getD_eq_getElem?_getD,List.getElem?_eq_getElem hj] at e
   rw [← e]; exact List.getElem_mem hj
set_option maxHeartbeats 2000000 in
theorem in_any {v : Value} {l : List Int} {w : World} (x : Int) (h : SliceI v l w) :
   Calls Tryz.prog 82 #[.int .i64 x,v] w fun e w' => e = .returned (.bool (decide (x ∈ l))) ∧ ∃ n,w' = w.drewN n := by
 rcases h with ⟨rfl,ao,ca,rfl⟩ | ⟨h1,h2,b,off,cap,rfl,hc⟩
 · go_enter Tryz.func82,Tryz.ntmps82
   go_wp2
   refine wp_loop_rounds 1 ?_
   rw [rounds_succ]
   go_wp2
   go_ret
   exact ⟨rfl,0,rfl⟩
 · obtain ⟨n,hn⟩ : ∃ n,n = l.length := ⟨_,rfl⟩
   rw [← hn]
   have HC : Hid ((∀ j,j < n → w.cell? ⟨b,off + j,none⟩ = some (.int .i64 (l.getD j 0))) ∧ n = l.length) := ⟨fun j hj => hc j (by omega),hn⟩
   have hnb : n ≤ 1000000 := by omega
   clear hc h1 h2 hn
   go_enter Tryz.func82,Tryz.ntmps82
   go_wp2
   go_loopw [5] (fun i wr => ∃ k : Nat,k ≤ n ∧ i = .int .i64 k ∧ Hid (∀ j,j < k → l.getD j 0 ≠ x) ∧ ∃ d,wr = w.drewN d) (fun i _ => n - (intOf i).toNat)
   case atStart => exact ⟨0,by omega,rfl,fun j hj => by omega,0,rfl⟩
   case round =>
     obtain ⟨k,hk,rfl,HK,d,rfl⟩ := hrel
     by_cases hlt : k < n
     · have c1 := HC.out.1 k hlt
       obtain ⟨y,hy⟩ : ∃ y,y = l.getD k 0 := ⟨_,rfl⟩
       rw [← hy] at c1
       have HX : Hid (y = l.getD k 0) := hy
       clear hy
       by_cases he : y = x
       · have hb : (y == x) = true := beq_iff_eq.2 he
         have HV : Hid (decide (x ∈ l) = true) := by
           show _ = _
           rw [decide_eq_true_eq]; exact mem_getD.2 ⟨k,by have := HC.out.2; omega,by rw [← HX.out,he]⟩
         clear he
         go_wp2
         go_ret
         exact ⟨ret_bool (by rw [HV.out]),_,by first | rfl | rw [World.drewN_drewN]⟩
       · have hb : (y == x) = false := beq_eq_false_iff_ne.2 he
         have HK2 : Hid (∀ j,j < k + 1 → l.getD j 0 ≠ x) := fun j hj => if e : j = k then by rw [e, ← HX.out]; exact he else HK.out j (by omega)
         clear he
         go_wp2
         go_roundw
         case rel => exact ⟨k + 1,by omega,by go_num,HK2.out,_,rfl⟩
         case measure => simp [intOf]; omega
     · have HV : Hid (decide (x ∈ l) = false) := by
         show _ = _
         rw [decide_eq_false_iff_not]; intro e
         obtain ⟨j,hj,e⟩ := mem_getD.1 e
         exact HK.out j (by have := HC.out.2; omega) e
       go_wp2
       go_ret
       exact ⟨ret_bool (by rw [HV.out]),_,rfl⟩
theorem RowF.own {g n base : Nat} {f : Nat → Value} {l : List Int} {w : World} (h : RowF g n 3 f w) (hl : l.length = n) (hf : ∀ j,j < n → f j = .int .i64 (l.getD j 0)) (hb : base ≤ g) (hn : n ≤ 1000000) : OwnI base (.slice (some ⟨g,0,none⟩) n n) l w := by
 obtain ⟨cs,h1,h2,h3⟩ := h
 refine ⟨by simp,Or.inr ⟨g,n,cs,by rw [hl],hb,h1,by omega,by unfold maxLen; omega,by omega, ?_⟩⟩
 rw [hl,Nat.mul_one,List.take_of_length_le (by simp; omega)]
 apply List.ext_getElem?
 intro i
 by_cases hi : i < n
 · rw [Array.getElem?_toList,h3 i hi,hf i hi,List.getElem?_map,List.getD_eq_getElem?_getD,List.getElem?_eq_getElem (by omega)]; rfl
 · rw [List.getElem?_eq_none (by simp; omega),List.getElem?_eq_none (by simp; omega)]
theorem bel_up {B : Nat} {w W w1 : World} (h0 : Below B w W) (h : Below W.heap.size W w1) (hB : B ≤ w.heap.size := by exact Nat.le_refl _) : Below B w w1 := h0.trans (h.mono (Nat.le_trans hB h0.size))
theorem bel_up' {B : Nat} {w W w1 : World} (h0 : Below B w W) (h : Below W.heap.size W w1) (hB : B ≤ w.heap.size := by exact Nat.le_refl _) : Below B w w1 := h0.trans (h.mono (Nat.le_trans hB h0.size))
theorem radd_nat {D : FD} (hD : D ∈ fieldsL) (gen : Nat) (v : Value) (a b : Nat) (ha : a < D.q) (hb : b < D.q) (wr : World) :
   Calls Tryz.prog 89 #[.agg #[.int .i64 D.q, .int .i64 D.p, .int .i64 D.m, .int .i64 gen,v], .int .i64 a, .int .i64 b] wr fun e w' => e = .returned (.int .i64 (sumD D.p D.q a b : Nat)) ∧ Below wr.heap.size wr w' := by
 rw [← addZ_nat (fld hD) ha hb]
 exact radd_any hD gen v a b wr
end Go.Proofs.YtinmkgohganllaaGreatDoor
namespace Go.Proofs.YtinmkgohganllaaGreatDoor
end Go.Proofs.YtinmkgohganllaaGreatDoor
namespace Go.Proofs.YtinmkgohganllaaGreatDoor
open Go.RowKit
theorem modL_len' {D : FD} : D.modL.length = D.m + 1 := by unfold FD.modL; rw [List.length_append,digL_len]; rfl
theorem mul_nat {F T : Nat} {D : FD} (hD : D ∈ fieldsL) {g : Nat → Value} {w : World} (h : FAt F T D g w) {a b : Nat} (ha : a < D.q) (hb : b < D.q) :
   Calls Tryz.prog 92 #[.pointer (some ⟨F,0,none⟩), .int .i64 a, .int .i64 b] w fun e w' => e = .returned (.int .i64 (D.mul a b : Nat)) ∧ ∃ n,w' = w.drewN n := by
 rw [← mulZ_nat (fld hD) ha hb]; exact mul_any hD h a b
theorem add_nat {F T : Nat} {D : FD} (hD : D ∈ fieldsL) {g : Nat → Value} {w : World} (h : FAt F T D g w) {a b : Nat} (ha : a < D.q) (hb : b < D.q) :
   Calls Tryz.prog 91 #[.pointer (some ⟨F,0,none⟩), .int .i64 a, .int .i64 b] w fun e w' => e = .returned (.int .i64 (sumD D.p D.q a b : Nat)) ∧ ∃ n,w' = w.drewN n := by
 rw [← addZ_nat (fld hD) ha hb]; exact add_any hD h a b
theorem zero_mul' (D : FD) (a : Nat) : D.mul 0 a = 0 := by simp [FD.mul]
theorem inv_is {D : FD} (hD : D ∈ fieldsL) {x : Nat} (hx : x < D.q) (h0 : x ≠ 0) : D.mul x (D.pw x (D.q - 2)) = 1 := by
 have h := t11 hD hx h0
 rw [inv_nat hD hx h0,mulZ_nat (fld hD) hx (pw_lt hD x _)] at h
 exact_mod_cast h
set_option maxHeartbeats 2000000 in
theorem list_err (e : Int) (he : e ≠ 0) (w : World) :
   Calls Tryz.prog 33 #[.slice none 0 0, .int .i64 e, .slice none 0 0, .int .i64 e] w fun r w' => r = .returned (.bool true) ∧ w' = w := by
 have h1 : (e != 0) = true := bne_iff_ne.2 he
 go_enter Tryz.func33,Tryz.ntmps33
 go_wp2
 go_ret
 exact ⟨rfl,rfl⟩
set_option maxHeartbeats 2000000 in
theorem list_same {va vb : Value} {l : List Int} {w : World} (ha : SliceI va l w) (hb : SliceI vb l w) :
   Calls Tryz.prog 33 #[va, .int .i64 0,vb, .int .i64 0] w fun r w' => r = .returned (.bool true) ∧ ∃ n,w' = w.drewN n := by
 have H : Hid (SliceI va l w ∧ SliceI vb l w) := ⟨ha,hb⟩
 clear ha hb
 go_enter Tryz.func33,Tryz.ntmps33
 go_wp2_with fail
 refine (same_any H.out.1 H.out.2).mono ?_
 rintro e w' ⟨rfl,n,rfl⟩
 rw [decide_eq_true rfl]
 go_wp2
 go_ret
 exact ⟨rfl,_,rfl⟩
end Go.Proofs.YtinmkgohganllaaGreatDoor
namespace Go.Proofs.YtinmkgohganllaaGreatDoor
def FD.ad (D : FD) (a b : Nat) : Nat := sumD D.p D.q a b
def FD.ng (D : FD) (a : Nat) : Nat := negD D.p D.q a
def FD.sb (D : FD) (a b : Nat) : Nat := D.ad a (D.ng b)
def El (D : FD) (c : Nat → Nat) : Prop := ∀ i,c i < D.q
theorem ad_lt {D : FD} (F : Fld D) {a b : Nat} (ha : a < D.q) (hb : b < D.q) : D.ad a b < D.q := F.sum_lt a b ha hb
theorem ad_comm {D : FD} (F : Fld D) (a b : Nat) : D.ad a b = D.ad b a := F.add_comm a b
theorem ad_assoc {D : FD} (F : Fld D) {a b c : Nat} (ha : a < D.q) (hb : b < D.q) (hc : c < D.q) : D.ad (D.ad a b) c = D.ad a (D.ad b c) := F.add_assoc a b c ha hb hc
theorem ad_zero {D : FD} (F : Fld D) {a : Nat} (ha : a < D.q) : D.ad a 0 = a := F.sum_zero a ha
theorem zero_ad {D : FD} (F : Fld D) {a : Nat} (ha : a < D.q) : D.ad 0 a = a := by rw [ad_comm F]; exact ad_zero F ha
theorem zero_lt' {D : FD} (F : Fld D) : 0 < D.q := by have := F.q2; omega
theorem one_lt' {D : FD} (F : Fld D) : 1 < D.q := by have := F.q2; omega
theorem ng_lt {D : FD} (F : Fld D) {a : Nat} (ha : a < D.q) : D.ng a < D.q := F.neg_lt a ha
theorem ad_ng {D : FD} (F : Fld D) {a : Nat} (ha : a < D.q) : D.ad a (D.ng a) = 0 := F.sum_neg a ha
theorem ng_zero {D : FD} (F : Fld D) : D.ng 0 = 0 := by
 have h := ad_ng F (zero_lt' F)
 rwa [zero_ad F (ng_lt F (zero_lt' F))] at h
theorem sb_lt {D : FD} (F : Fld D) {a b : Nat} (ha : a < D.q) (hb : b < D.q) : D.sb a b < D.q := ad_lt F ha (ng_lt F hb)
theorem sb_zero {D : FD} (F : Fld D) {a : Nat} (ha : a < D.q) : D.sb a 0 = a := by rw [FD.sb,ng_zero F,ad_zero F ha]
theorem sb_self {D : FD} (F : Fld D) {a : Nat} (ha : a < D.q) : D.sb a a = 0 := ad_ng F ha
theorem ad_sb {D : FD} (F : Fld D) {a b : Nat} (ha : a < D.q) (hb : b < D.q) : D.ad b (D.sb a b) = a := by
 rw [FD.sb,ad_comm F a, ← ad_assoc F hb (ng_lt F hb) ha,ad_ng F hb,zero_ad F ha]
theorem sb_ad {D : FD} (F : Fld D) {a b : Nat} (ha : a < D.q) (hb : b < D.q) : D.sb (D.ad a b) b = a := by
 rw [FD.sb,ad_assoc F ha hb (ng_lt F hb),ad_ng F hb,ad_zero F ha]
theorem ad_cancel {D : FD} (F : Fld D) {a b c : Nat} (ha : a < D.q) (hb : b < D.q) (hc : c < D.q) (h : D.ad a b = D.ad a c) : b = c := by
 have h1 := sb_ad F hb ha
 have h2 := sb_ad F hc ha
 rw [ad_comm F b a,h,ad_comm F a c,h2] at h1
 exact h1.symm
theorem sb_eq_zero {D : FD} (F : Fld D) {a b : Nat} (ha : a < D.q) (hb : b < D.q) (h : D.sb a b = 0) : a = b := by
 have := ad_sb F ha hb
 rw [h,ad_zero F hb] at this
 exact this.symm
theorem mul0 {D : FD} (_F : Fld D) (a : Nat) : D.mul a 0 = 0 := by simp [FD.mul]
theorem zmul {D : FD} (_F : Fld D) (a : Nat) : D.mul 0 a = 0 := by simp [FD.mul]
theorem mul_ad {D : FD} (F : Fld D) {a b c : Nat} (hb : b < D.q) (hc : c < D.q) : D.mul a (D.ad b c) = D.ad (D.mul a b) (D.mul a c) := F.distrib a b c hb hc
theorem ad_mul {D : FD} (F : Fld D) {a b c : Nat} (hb : b < D.q) (hc : c < D.q) : D.mul (D.ad b c) a = D.ad (D.mul b a) (D.mul c a) := by
 rw [F.mul_comm,mul_ad F hb hc,F.mul_comm a b,F.mul_comm a c]
theorem mul1 {D : FD} (F : Fld D) {a : Nat} (ha : a < D.q) : D.mul a 1 = a := F.mul_one a ha
theorem omul {D : FD} (F : Fld D) {a : Nat} (ha : a < D.q) : D.mul 1 a = a := by rw [F.mul_comm]; exact F.mul_one a ha
theorem mul_ng {D : FD} (F : Fld D) {a b : Nat} (hb : b < D.q) : D.mul a (D.ng b) = D.ng (D.mul a b) := by
 refine ad_cancel F (F.mul_lt a b) (F.mul_lt a _) (ng_lt F (F.mul_lt a b)) ?_
 rw [ad_ng F (F.mul_lt a b), ← mul_ad F hb (ng_lt F hb),ad_ng F hb,mul0 F]
theorem ad4 {D : FD} (F : Fld D) {a b c d : Nat} (ha : a < D.q) (hb : b < D.q) (hc : c < D.q) (hd : d < D.q) : D.ad (D.ad a b) (D.ad c d) = D.ad (D.ad a c) (D.ad b d) := by
 rw [ad_assoc F ha hb (ad_lt F hc hd), ← ad_assoc F hb hc hd,ad_comm F b c,ad_assoc F hc hb hd, ← ad_assoc F ha hc (ad_lt F hb hd)]
def padd (D : FD) (a b : Nat → Nat) : Nat → Nat := fun k => D.ad (a k) (b k)
def psub (D : FD) (a b : Nat → Nat) : Nat → Nat := fun k => D.sb (a k) (b k)
def pscale (D : FD) (s : Nat) (b : Nat → Nat) : Nat → Nat := fun k => D.mul s (b k)
def pnil : Nat → Nat := fun _ => 0
def Bd (n : Nat) (a : Nat → Nat) : Prop := ∀ k,n ≤ k → a k = 0
theorem el_nil {D : FD} (F : Fld D) : El D pnil := fun _ => zero_lt' F
theorem el_add {D : FD} (F : Fld D) {a b : Nat → Nat} (ha : El D a) (hb : El D b) : El D (padd D a b) := fun k => ad_lt F (ha k) (hb k)
theorem el_sub {D : FD} (F : Fld D) {a b : Nat → Nat} (ha : El D a) (hb : El D b) : El D (psub D a b) := fun k => sb_lt F (ha k) (hb k)
theorem el_scale {D : FD} (F : Fld D) (s : Nat) (b : Nat → Nat) : El D (pscale D s b) := fun _ => F.mul_lt _ _
theorem padd_assoc {D : FD} (F : Fld D) {a b c : Nat → Nat} (ha : El D a) (hb : El D b) (hc : El D c) : padd D (padd D a b) c = padd D a (padd D b c) := by funext k; exact ad_assoc F (ha k) (hb k) (hc k)
theorem padd_nil {D : FD} (F : Fld D) {a : Nat → Nat} (ha : El D a) : padd D a pnil = a := by funext k; exact ad_zero F (ha k)
theorem nil_padd {D : FD} (F : Fld D) {a : Nat → Nat} (ha : El D a) : padd D pnil a = a := by funext k; exact zero_ad F (ha k)
theorem padd4 {D : FD} (F : Fld D) {a b c d : Nat → Nat} (ha : El D a) (hb : El D b) (hc : El D c) (hd : El D d) : padd D (padd D a b) (padd D c d) = padd D (padd D a c) (padd D b d) := by funext k; exact ad4 F (ha k) (hb k) (hc k) (hd k)
theorem psub_add {D : FD} (F : Fld D) {a b : Nat → Nat} (ha : El D a) (hb : El D b) : padd D b (psub D a b) = a := by funext k; exact ad_sb F (ha k) (hb k)
theorem psub_self {D : FD} (F : Fld D) {a : Nat → Nat} (ha : El D a) : psub D a a = pnil := by funext k; exact sb_self F (ha k)
theorem psub_nil {D : FD} (F : Fld D) {a : Nat → Nat} (ha : El D a) : psub D a pnil = a := by funext k; exact sb_zero F (ha k)
theorem psub_eq_nil {D : FD} (F : Fld D) {a b : Nat → Nat} (ha : El D a) (hb : El D b) (h : psub D a b = pnil) : a = b := by
 funext k; exact sb_eq_zero F (ha k) (hb k) (congrFun h k)
theorem pscale_zero {D : FD} (F : Fld D) (b : Nat → Nat) : pscale D 0 b = pnil := by funext k; exact zmul F _
theorem pscale_one {D : FD} (F : Fld D) {b : Nat → Nat} (hb : El D b) : pscale D 1 b = b := by funext k; exact omul F (hb k)
theorem pscale_nil {D : FD} (F : Fld D) (s : Nat) : pscale D s pnil = pnil := by funext k; exact mul0 F _
theorem pscale_add {D : FD} (F : Fld D) (s : Nat) {a b : Nat → Nat} (ha : El D a) (hb : El D b) : pscale D s (padd D a b) = padd D (pscale D s a) (pscale D s b) := by funext k; exact mul_ad F (ha k) (hb k)
theorem pscale_pscale {D : FD} (F : Fld D) (s t : Nat) (b : Nat → Nat) : pscale D s (pscale D t b) = pscale D (D.mul s t) b := by funext k; exact (F.mul_assoc s t (b k)).symm
theorem add_pscale {D : FD} (F : Fld D) {s t : Nat} (hs : s < D.q) (ht : t < D.q) (b : Nat → Nat) : pscale D (D.ad s t) b = padd D (pscale D s b) (pscale D t b) := by funext k; exact ad_mul F hs ht
end Go.Proofs.YtinmkgohganllaaGreatDoor
namespace Go.Proofs.YtinmkgohganllaaGreatDoor
theorem Bd.mono {c : Nat → Nat} {n m : Nat} (h : Bd n c) (hm : n ≤ m) : Bd m c := fun k hk => h k (by omega)
end Go.Proofs.YtinmkgohganllaaGreatDoor
namespace Go.Proofs.YtinmkgohganllaaGreatDoor
def FD.iv (D : FD) (x : Nat) : Nat := D.pw x (D.q - 2)
theorem iv_lt {D : FD} (hD : D ∈ fieldsL) (x : Nat) : D.iv x < D.q := pw_lt hD x _
theorem iv_is {D : FD} (hD : D ∈ fieldsL) {x : Nat} (hx : x < D.q) (h0 : x ≠ 0) : D.mul x (D.iv x) = 1 := inv_is hD hx h0
end Go.Proofs.YtinmkgohganllaaGreatDoor
namespace Go.Proofs.YtinmkgohganllaaGreatDoor
end Go.Proofs.YtinmkgohganllaaGreatDoor
namespace Go.Proofs.YtinmkgohganllaaGreatDoor
open Go.RowKit
def Sl (ao : Option Addr) (n : Nat) (c : Nat → Nat) (w : World) : Prop := ∀ j,j < n → ∃ b off,ao = some ⟨b,off,none⟩ ∧ w.cell? ⟨b,off + j,none⟩ = some (.int .i64 (c j : Nat))
def LtB (ao : Option Addr) (B : Nat) : Prop := ∀ x,ao = some x → x.block < B
def GeB (ao : Option Addr) (B : Nat) : Prop := ∀ x,ao = some x → B ≤ x.block
theorem Sl.drewN {ao : Option Addr} {n : Nat} {c : Nat → Nat} {w : World} (h : Sl ao n c w) (k : Nat) : Sl ao n c (w.drewN k) := h
theorem Sl.less {ao : Option Addr} {n m : Nat} {c : Nat → Nat} {w : World} (h : Sl ao n c w) (hm : m ≤ n) : Sl ao m c w := fun j hj => h j (by omega)
theorem Sl.congr {ao : Option Addr} {n : Nat} {c d : Nat → Nat} {w : World} (h : Sl ao n c w) (e : ∀ j,j < n → c j = d j) : Sl ao n d w := fun j hj => by rw [← e j hj]; exact h j hj
theorem Sl.below {ao : Option Addr} {n B : Nat} {c : Nat → Nat} {w w' : World} (h : Sl ao n c w) (hb : Below B w w') (hB : LtB ao B) : Sl ao n c w' := fun j hj => by
 obtain ⟨b,off,rfl,hc⟩ := h j hj
 exact ⟨b,off,rfl,((bcell hb).1 b (off + j) (hB _ rfl)).trans hc⟩
theorem LtB.mono {ao : Option Addr} {B C : Nat} (h : LtB ao B) (hBC : B ≤ C) : LtB ao C := fun x hx => Nat.lt_of_lt_of_le (h x hx) hBC
theorem GeB.mono {ao : Option Addr} {B C : Nat} (h : GeB ao C) (hBC : B ≤ C) : GeB ao B := fun x hx => Nat.le_trans hBC (h x hx)
def Row (g N : Nat) (c : Nat → Nat) (w : World) : Prop := ∃ cap f,RowF g cap 3 f w ∧ N ≤ cap ∧ ∀ k,k < N → f k = .int .i64 (c k : Nat)
theorem Row.cell {g N : Nat} {c : Nat → Nat} {w : World} (h : Row g N c w) (k : Nat) (hk : k < N) : w.cell? ⟨g,k,none⟩ = some (.int .i64 (c k : Nat)) := by
 obtain ⟨cap,f,hf,hN,he⟩ := h
 rw [hf.cell k (by omega),he k hk]
theorem Row.free {g N : Nat} {c : Nat → Nat} {w : World} (h : Row g N c w) (k : Nat) : w.frozen? ⟨g,k,none⟩ = false := by
 obtain ⟨cap,f,hf,hN,he⟩ := h
 exact hf.free k
theorem Row.lt {g N : Nat} {c : Nat → Nat} {w : World} (h : Row g N c w) : g < w.heap.size := by
 obtain ⟨cap,f,hf,hN,he⟩ := h
 exact hf.lt
theorem Row.drewN {g N : Nat} {c : Nat → Nat} {w : World} (h : Row g N c w) (k : Nat) : Row g N c (w.drewN k) := by
 obtain ⟨cap,f,hf,hN,he⟩ := h
 exact ⟨cap,f,hf.drewN k,hN,he⟩
theorem Row.store {g N : Nat} {c d : Nat → Nat} {w : World} (h : Row g N c w) (k v : Nat) (hd : ∀ j,j < N → d j = if j = k then v else c j) : Row g N d (w.setCell ⟨g,k,none⟩ (.int .i64 (v : Nat))) := by
 obtain ⟨cap,f,hf,hN,he⟩ := h
 refine ⟨cap,_,hf.store k _,hN,fun j hj => ?_⟩
 unfold upd
 rw [hd j hj]
 split
 · rfl
 · exact he j hj
theorem Row.congr {g N : Nat} {c d : Nat → Nat} {w : World} (h : Row g N c w) (e : ∀ k,k < N → c k = d k) : Row g N d w := by
 obtain ⟨cap,f,hf,hN,he⟩ := h
 exact ⟨cap,f,hf,hN,fun k hk => by rw [he k hk,e k hk]⟩
theorem Row.less {g N M : Nat} {c : Nat → Nat} {w : World} (h : Row g N c w) (hM : M ≤ N) : Row g M c w := by
 obtain ⟨cap,f,hf,hN,he⟩ := h
 exact ⟨cap,f,hf,by omega,fun k hk => he k (by omega)⟩
theorem Row.below {g N B : Nat} {c : Nat → Nat} {w w' : World} (h : Row g N c w) (hb : Below B w w') (hB : g < B) : Row g N c w' := by
 obtain ⟨cap,f,hf,hN,he⟩ := h
 exact ⟨cap,f,hf.below hb hB,hN,he⟩
theorem Row.other {g N : Nat} {c : Nat → Nat} {w w' : World} (h : Row g N c w) (e : w'.heap[g]? = w.heap[g]?) : Row g N c w' := by
 obtain ⟨cap,f,hf,hN,he⟩ := h
 exact ⟨cap,f,hf.other e,hN,he⟩
theorem Row.sl {g N : Nat} {c : Nat → Nat} {w : World} (h : Row g N c w) {n : Nat} (hn : n ≤ N) : Sl (some ⟨g,0,none⟩) n c w := fun j hj => ⟨g,0,rfl,by rw [Nat.zero_add]; exact h.cell j (by omega)⟩
theorem row_zeros {base n : Nat} {w : World} (h : OwnI base (.slice (some ⟨base,0,none⟩) n n) (List.replicate n 0) w) : Row base n pnil w := by
 rcases h.2 with ⟨h1,_⟩ | ⟨g,cap,cur,hv,hg,hh,hle,hcm,hsz,htake⟩
 · cases h1
 · simp only [List.length_replicate,Value.slice.injEq,Option.some.injEq,Addr.mk.injEq,and_true,true_and] at hv
   obtain ⟨rfl,rfl⟩ := hv
   by_cases h0 : n = 0
   · exact ⟨n,fun _ => .int .i64 0,⟨cur,hh,by omega,fun o ho => by omega⟩,Nat.le_refl _,fun k hk => by omega⟩
   · obtain ⟨gl,cl,fl,hvl,hgl,hgl',hll,hcl,hrl,hfl⟩ := h.row n (by simp) (by omega)
     simp only [Value.slice.injEq,Option.some.injEq,Addr.mk.injEq,and_true,true_and] at hvl
     obtain ⟨rfl,rfl⟩ := hvl
     exact ⟨n,fl,hrl,Nat.le_refl _,fun k hk => by rw [hfl k hk,list_getD_replicate]; rfl⟩
def OwnP (base : Nat) (v : Value) (n : Nat) (c : Nat → Nat) (w : World) : Prop :=
 ∃ ao cap,v = .slice ao n cap ∧ n ≤ cap ∧ cap ≤ 9223372036854775807 ∧ GeB ao base ∧ LtB ao w.heap.size ∧ (ao = none → cap = 0) ∧ (0 < n → ∃ g,ao = some ⟨g,0,none⟩ ∧ Row g n c w)
theorem OwnP.of_row {base g n N cap : Nat} {c : Nat → Nat} {w : World} (h : Row g N c w) (hn : n ≤ N) (hN : n ≤ cap) (hcap : cap ≤ 9223372036854775807) (hb : base ≤ g) : OwnP base (.slice (some ⟨g,0,none⟩) n cap) n c w :=
 ⟨_,cap,rfl,hN,hcap,fun x hx => by cases hx; exact hb,fun x hx => by cases hx; exact h.lt,fun e => (by cases e),fun _ => ⟨g,rfl,h.less hn⟩⟩
theorem OwnP.below {base B n : Nat} {v : Value} {c : Nat → Nat} {w w' : World} (h : OwnP base v n c w) (hb : Below B w w') (hB : w.heap.size ≤ B) : OwnP base v n c w' := by
 obtain ⟨ao,cap,hv,h1,h2,hg,hl,hz,hr⟩ := h
 refine ⟨ao,cap,hv,h1,h2,hg,hl.mono hb.size,hz,fun h0 => ?_⟩
 obtain ⟨g,e,hrow⟩ := hr h0
 exact ⟨g,e,hrow.below hb (Nat.lt_of_lt_of_le (hl _ e) hB)⟩
theorem OwnP.mono {base base' n : Nat} {v : Value} {c : Nat → Nat} {w : World} (h : OwnP base v n c w) (hb : base' ≤ base) : OwnP base' v n c w := by
 obtain ⟨ao,cap,hv,h1,h2,hg,hl,hz,hr⟩ := h
 exact ⟨ao,cap,hv,h1,h2,hg.mono hb,hl,hz,hr⟩
theorem OwnP.congr {base n : Nat} {v : Value} {c d : Nat → Nat} {w : World} (h : OwnP base v n c w) (e : ∀ k,k < n → c k = d k) : OwnP base v n d w := by
 obtain ⟨ao,cap,hv,h1,h2,hg,hl,hz,hr⟩ := h
 refine ⟨ao,cap,hv,h1,h2,hg,hl,hz,fun h0 => ?_⟩
 obtain ⟨g,e',hrow⟩ := hr h0
 exact ⟨g,e',hrow.congr e⟩
theorem OwnP.drewN {base n : Nat} {v : Value} {c : Nat → Nat} {w : World} (h : OwnP base v n c w) (k : Nat) : OwnP base v n c (w.drewN k) := by
 obtain ⟨ao,cap,hv,h1,h2,hg,hl,hz,hr⟩ := h
 refine ⟨ao,cap,hv,h1,h2,hg,hl,hz,fun h0 => ?_⟩
 obtain ⟨g,e',hrow⟩ := hr h0
 exact ⟨g,e',hrow.drewN k⟩
theorem OwnP.open {base n : Nat} {v : Value} {c : Nat → Nat} {w : World} (h : OwnP base v n c w) : ∃ ao cap,v = .slice ao n cap ∧ n ≤ cap ∧ cap ≤ 9223372036854775807 ∧ GeB ao base ∧ LtB ao w.heap.size ∧ (ao = none → cap = 0) ∧ Sl ao n c w := by
 obtain ⟨ao,cap,hv,h1,h2,hg,hl,hz,hr⟩ := h
 refine ⟨ao,cap,hv,h1,h2,hg,hl,hz,fun j hj => ?_⟩
 obtain ⟨g,e,hrow⟩ := hr (by omega)
 exact ⟨g,0,e,by rw [Nat.zero_add]; exact hrow.cell j hj⟩
end Go.Proofs.YtinmkgohganllaaGreatDoor
namespace Go.Proofs.YtinmkgohganllaaGreatDoor
open Go
def HeadAll (P : Program) (ops : Array Oper) (C : World → Prop) (n : Nat) (L : Array Bool → Act → Prop) : Nat → Array Bool → Act → Prop
 | 0,s,a => L s a
 | f + 1,s,a => Region.ready .any ops s ≠ [] ∧ ∀ i,i ∈ Region.ready .any ops s → i < n ∧ qOp P ops C i (HeadAll P ops C n L f (s.setIfInBounds i true)) a
theorem head_any {P : Program} {ops : Array Oper} {C : World → Prop} {n g : Nat} {L : Array Bool → Act → Prop} {Q : Exit → Act → World → Prop} (hL : ∀ s a w,C w → L s a → wpAny P .any ops Q g s a w) :
   ∀ (f : Nat) (s : Array Bool) (a : Act) (w : World),C w → HeadAll P ops C n L f s a → wpAny P .any ops Q (f + g) s a w := by
 intro f
 induction f with
 | zero => intro s a w hw h; rw [Nat.zero_add]; exact hL s a w hw h
 | succ f ih =>
   intro s a w hw h
   rw [show f + 1 + g = f + g + 1 from by omega]
   exact ⟨fun e => absurd e h.1,fun i hi => wpOp_of_qOp hw (fun a' w' hw' h' => ih _ a' w' hw' h') (h.2 i hi).2⟩
theorem head_first {P : Program} {ops : Array Oper} {C : World → Prop} {n i : Nat} {oi : Oper} {v : Value} {L : Array Bool → Act → Prop} (hi : ops[i]? = some oi)
   (hsel : ∀ (j : Nat) (o : Oper) cs b,ops[j]? = some o → o.op ≠ .select cs b) (hs : Region.sinkB .any ops n = true) (hc : Region.chainB .any ops n = true) (hn : n < ops.size) (hin : i < n)
   (hdone : ∀ s a,L s a → ∀ j,j ∈ Region.ready .any ops s → n ≤ j) :
   ∀ (f : Nat) (s : Array Bool) (a : Act),HeadInv .any ops n s →
     (∀ j oj,ops[j]? = some oj → j ≠ i → s.getD j true = false → (∀ e ∈ oj.after,Region.binds .any e = true → e.on ≠ i) → oi.apart ops oj = true) →
     i ∈ Region.ready .any ops s → YieldsIn P ops C oi v a → HeadAll P ops C n L f (s.setIfInBounds i true) (a.put oi.dst v) → HeadAll P ops C n L (f + 1) s a := by
 intro f
 induction f with
 | zero =>
   intro s a inv _ hr hy H
   refine ⟨fun e => (by rw [e] at hr; cases hr),fun j hj => ?_⟩
   have hjn : j < n := Nat.lt_of_not_le fun h => tail_waits hs hc hn inv _ i rfl hin (mem_ready.1 hr).1 j h hj
   by_cases e : j = i
   · exact ⟨hjn,by subst e; exact hy.qOp hi H⟩
   · exact absurd (hdone _ _ H j (ready_mono hj e)) (by omega)
 | succ f ih =>
   intro s a inv hfree hr hy H
   refine ⟨fun e => (by rw [e] at hr; cases hr),fun j hj => ?_⟩
   have hun := (mem_ready.1 hr).1
   have hjn : j < n := Nat.lt_of_not_le fun h => tail_waits hs hc hn inv _ i rfl hin hun j h hj
   by_cases e : j = i
   · exact ⟨hjn,by subst e; exact hy.qOp hi H⟩
   · obtain ⟨hju,oj,hoj,hall⟩ := mem_ready.1 hj
     have hno : ∀ d ∈ oj.after,Region.binds .any d = true → d.on ≠ i := fun d hd hb heq => by
       have t := hall d hd hb
       rw [heq,getD_both hun] at t
       cases t
     have h2 := qOp_put hoj (hfree j oj hoj e hju hno) (fun cs b => hsel i oi cs b hi) (fun cs b => hsel j oj cs b hoj) hy (H.2 j (ready_mono hj e)).2
     refine ⟨hjn,qOp_mono (fun a' h3 => ?_) h2⟩
     refine ih (s.setIfInBounds j true) a' (inv.set hj hjn) (fun k ok hk hki hun hno => hfree k ok hk hki ?_ hno) (ready_mono hr (fun x => e x.symm)) h3.1 ?_
     · by_cases hjk : j = k
       · subst hjk; exact hju
       · rw [getD_set_ne true hjk] at hun; exact hun
     · rw [Array.setIfInBounds_comm _ _ e]; exact h3.2
theorem head_lex {P : Program} {ops : Array Oper} {C : World → Prop} {n g : Nat} {K : Act → Prop} (hsel : Region.noSelect ops = true) (hs : Region.sinkB .any ops n = true) (hc : Region.chainB .any ops n = true) (hn : n < ops.size) :
   ∀ (l : List Oper) (k : Nat) (s : Array Bool) (a : Act),(∀ j,j < l.length → l[j]? = ops[k + j]?) → k + l.length = n → HeadInv .any ops n s →
     Region.lexHead .any ops g l.length k s = true → wpQuiet P ops C K l a → HeadAll P ops C n (fun s' a' => Region.seqB .any ops g n s' = true ∧ K a') l.length s a := by
 intro l
 induction l with
 | nil =>
   intro k s a _ hk _ hB h
   have e : k = n := by simpa using hk
   subst e
   exact ⟨by simpa [Region.lexHead] using hB,h⟩
 | cons o l ih =>
   intro k s a hl hk inv hB h
   have h0 : ops[k]? = some o := by simpa using (hl 0 (by simp)).symm
   simp only [List.length_cons,Region.lexHead,Bool.and_eq_true] at hB
   obtain ⟨⟨hr,hf⟩,hB'⟩ := hB
   simp only [List.length_cons] at hk
   have hr' : k ∈ Region.ready .any ops s := by simpa using hr
   have hq : qOp P ops C k (wpQuiet P ops C K l) a := by unfold qOp; simp only [h0]; exact h
   obtain ⟨v,hy,hK⟩ := yieldsIn_of_qOp h0 hq
   refine head_first h0 (Region.noSelect_spec hsel) hs hc hn (by omega) (fun s' a' hL => seqB_ready hL.1) l.length s a inv (Region.free_spec h0 hf) hr' hy ?_
   exact ih (k + 1) _ _ (fun j hj => by have := hl (j + 1) (by simp; omega); simpa [Nat.add_assoc,Nat.add_comm 1 j] using this) (by omega) (inv.set hr' (by omega)) hB' hK
theorem quiet_tail {P : Program} {id : Nat} {Q : Exit → Act → World → Prop} {a : Act} {w : World} {l : List Oper} (n : Nat) (hm : P.follows .mixedOrders = true) (hB : Region.lexTailB .any l.toArray n = true)
   (h : wpQuiet P l.toArray (fun w' => ∃ k,w' = w.drewN k) (fun a' => ∀ w',(∃ k,w' = w.drewN k) → wpList P l.toArray Q (l.drop n) a' w') (l.take n) a) : (Code.region id l.toArray true).wp P Q a w := by
 simp only [Region.lexTailB,Bool.and_eq_true,decide_eq_true_eq] at hB
 obtain ⟨⟨⟨⟨hsel,hn⟩,hs⟩,hc⟩,hlex⟩ := hB
 have hn' : n < l.length := by simpa using hn
 have htl : (l.take n).length = n := by simp; omega
 have hdl : (l.drop n).length = l.toArray.size - n := by simp
 have inv0 : HeadInv .any l.toArray n (Array.replicate l.toArray.size false) :=
   ⟨by simp,fun j oj _ hl => (by rw [getD_replicate_false] at hl; cases hl),fun t _ ht => getD_in (by simpa using ht) (getD_replicate_false _ _)⟩
 have H := head_lex (g := l.toArray.size - n) hsel hs hc hn (l.take n) 0 _ a (fun j hj => by
   have hj' : j < n := by rw [htl] at hj; exact hj
   simp [hj']) (by simpa using htl) inv0 (by rw [htl]; exact hlex) h
 refine wp_region_any hm ?_
 have R := head_any (Q := Q) (g := l.toArray.size - n) (fun s a' w' hw' hL => by
   have := wpAny_of_seq (md := .any) (Q' := Q) (l.drop n) n s a' w' (fun j => by simp [List.getElem?_drop]) (by rw [hdl]; exact hL.1) (hL.2 w' hw')
   rwa [hdl] at this) _ _ _ _ (show ∃ k, { w with drawn := w.drawn + 1 } = w.drewN k from ⟨1,rfl⟩) H
 rw [htl,show n + (l.toArray.size - n) = l.toArray.size by omega] at R
 exact R
end Go.Proofs.YtinmkgohganllaaGreatDoor
namespace Go.Proofs.YtinmkgohganllaaGreatDoor
open Go.RowKit
def celL (n : Nat) (c : Nat → Nat) : List Value := (List.range n).map fun k => .int .i64 (c k : Nat)
theorem celL_len (n : Nat) (c : Nat → Nat) : (celL n c).length = n := by simp [celL]
theorem celL_get (n : Nat) (c : Nat → Nat) (j : Nat) (hj : j < n) : (celL n c)[j]? = some (.int .i64 (c j : Nat)) := by
 unfold celL
 rw [List.getElem?_map,List.getElem?_range hj]; rfl
theorem celL_one (n : Nat) (c : Nat → Nat) : ∀ u ∈ celL n c,u.oneCell' = true := by
 intro u hu
 unfold celL at hu
 obtain ⟨k,_,rfl⟩ := List.mem_map.1 hu
 rfl
theorem add_off (b off j : Nat) : (Addr.mk b off none).add j = ⟨b,off + j,none⟩ := by simp [Addr.add]
theorem copy_int {ops : Array Oper} {rest : List Oper} {o : Oper} {a : Act} {w : World} {Q : Exit → Act → World → Prop} (hgd : o.guard = none) (d s : Operand)
   (ho : o.op = .call { callee := .builtin .copy,args := #[d,s],argTypes := #[22,22] }) (g N dc n sc : Nat) (ao : Option Addr)
   (hd : a.eval d = .slice (some ⟨g,0,none⟩) N dc) (hs : a.eval s = .slice ao n sc) (c x : Nat → Nat) (hrow : Row g N c w) (hS : Sl ao n x w) (hn : n ≤ N)
   (B : Nat) (w0 : World) (hb : Below B w0 w) (hBg : B ≤ g)
   (h : ∀ w',Row g N (fun k => if k < n then x k else c k) w' → Below B w0 w' → wpList Tryz.prog ops Q rest (a.put o.dst (goInt n)) w') : wpList Tryz.prog ops Q (o :: rest) a w := by
 obtain ⟨cap,f,hf,hN,he⟩ := hrow
 obtain ⟨cs,h1,h2,h3⟩ := hf
 obtain ⟨i0,hi,hz0,hz1,hz2⟩ := info_parts Tryz.infoInt
 have hh : w.heap[g]? = some (.cells cs.toList.toArray 3 (0,0)) := by simpa using h1
 refine wpList_copy_splice hgd d s 22 22 ho 3 Tryz.underlying22 (by rw [hi]; simp [hz1]) _ _ N dc n sc hd hs g 0 cs.toList 3 hh (celL n x) (by rw [celL_len]; exact (Nat.min_eq_left hn).symm) ?_ (by rw [celL_len]; simp; omega) (celL_one n x) B w0 hb hBg ?_
 · intro h0
   rw [celL_len] at h0
   obtain ⟨b,off,rfl,_⟩ := hS 0 h0
   refine ⟨rfl,_,rfl,fun j v hj => ?_⟩
   have hj' : j < n := by
     have := (List.getElem?_eq_some_iff.1 hj).1
     rwa [celL_len] at this
   rw [celL_get n x j hj'] at hj
   cases hj
   obtain ⟨b',off',e,hc⟩ := hS j hj'
   cases e
   rw [add_off]; exact hc
 · intro w' hg' hb'
   rw [celL_len]
   refine h w' ?_ hb'
   have hlen : (splice cs.toList 0 (celL n x)).length = cap := by rw [length_splice _ _ _ (by rw [celL_len]; simp; omega)]; simpa using h2
   refine ⟨cap,fun k => if k < n then .int .i64 (x k : Nat) else f k,⟨(splice cs.toList 0 (celL n x)).toArray,hg'.out,by simpa using hlen,fun k hk => ?_⟩,hN,fun k hk => ?_⟩
   · show _ = some (if k < n then _ else f k)
     unfold splice
     rw [List.getElem?_toArray,List.take_zero,List.nil_append,celL_len,Nat.zero_add]
     by_cases e : k < n
     · rw [List.getElem?_append_left (by rw [celL_len]; exact e),celL_get n x k e,if_pos e]
     · rw [List.getElem?_append_right (by rw [celL_len]; omega),celL_len,List.getElem?_drop,show n + (k - n) = k from by omega,Array.getElem?_toList,h3 k hk,if_neg e]
   · show (if k < n then _ else f k) = .int .i64 ((if k < n then x k else c k : Nat) : Int)
     by_cases e : k < n
     · rw [if_pos e,if_pos e]
     · rw [if_neg e,if_neg e]; exact he k hk
theorem append_list {ops : Array Oper} {rest : List Oper} {o : Oper} {a : Act} {w : World} {Q : Exit → Act → World → Prop} (hgd : o.guard = none) (s x : Operand)
   (ho : o.op = .call { callee := .builtin .append,args := #[s,x],argTypes := #[22,22] })
   (base : Nat) (v : Value) (hs : a.eval s = v) (hown : OwnI base v [] w) (ao : Option Addr) (n sc : Nat) (c : Nat → Nat) (hx : a.eval x = .slice ao n sc) (hS : Sl ao n c w) (hnil : ao = none → sc = 0)
   (hn : n ≤ 1000000) (hbase : base ≤ w.heap.size)
   (h : ∀ v' w',OwnP base v' n c w' → w.grownBy w' v.ownBlock → wpList Tryz.prog ops Q rest (a.put o.dst v') w') : wpList Tryz.prog ops Q (o :: rest) a w := by
 obtain ⟨i0,hi,hz0,hz1,hz2⟩ := info_parts Tryz.infoInt
 have key : ∀ v' w',w'.ownsRow base 3 1 v' (0 + n) ([] ++ celL n c) → OwnP base v' n c w' := by
   intro v' w' ho'
   rw [Nat.zero_add,List.nil_append] at ho'
   rcases ho'.2 with ⟨h1,h2⟩ | ⟨g,cap,cur,hv,hg,hh,hle,hcm,hsz,htake⟩
   · subst h2
     exact ⟨none,0,h1,Nat.le_refl _,by omega,fun x hx => (by cases hx),fun x hx => (by cases hx),fun _ => rfl,fun h0 => absurd h0 (by omega)⟩
   · refine ⟨_,cap,hv,hle,by unfold maxLen at hcm; omega,fun x hx => (by cases hx; exact hg),fun x hx => (by cases hx; exact lt_of_block hh),fun e => (by cases e),fun _ => ⟨g,rfl,cap,fun k => (cur[k]?).getD (.int .i64 0),⟨cur,hh,by omega,fun k hk => ?_⟩,hle,fun k hk => ?_⟩⟩
     · show _ = some (Option.getD _ _)
       rw [Array.getElem?_eq_getElem (by omega)]; rfl
     · have h3 : (cur.toList.take (n * 1))[k]? = (celL n c)[k]? := by rw [htake]
       rw [List.getElem?_take,if_pos (by omega),celL_get n c k hk] at h3
       show (cur[k]?).getD _ = _
       rw [← Array.getElem?_toList,h3]; rfl
 cases ao with
 | none =>
   have h0 : n = 0 := by
     rcases Nat.eq_zero_or_pos n with e | e
     · exact e
     · obtain ⟨b,off,h1,_⟩ := hS 0 e
       cases h1
   subst h0
   rw [hnil rfl] at hx
   refine wpList_append_own_none hgd s x 22 ho base 3 i0 1 Tryz.underlying22 hi v 0 [] hs hown hx ?_
   exact h v w (key v w hown) (grown_refl _ _)
 | some ad =>
   refine wpList_append_own _ hgd s x 22 ho base 3 i0 (.int .i64 0) 1 8 Tryz.underlying22 hi hz0 hz1 hz2 rfl (by decide) v 0 [] hs hown ad n sc (celL n c) hx (by rw [celL_len]; omega) ?_ (celL_one n c) ?_ ?_ hbase ?_
   · intro j u hj
     have hj' : j < n := by
       have := (List.getElem?_eq_some_iff.1 hj).1
       rwa [celL_len] at this
     rw [celL_get n c j hj'] at hj
     cases hj
     obtain ⟨b,off,e,hc⟩ := hS j hj'
     cases e
     rw [add_off]; exact hc
   · unfold maxLen; omega
   · omega
   · intro v' w' hown' hgrow _
     exact h v' w' (key v' w' hown') hgrow
end Go.Proofs.YtinmkgohganllaaGreatDoor
