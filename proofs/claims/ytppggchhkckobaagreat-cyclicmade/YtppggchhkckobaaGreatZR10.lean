/- Texts of ours, one behind the other: R10 R11 R12 R13 R18 R14 B4 B5 B6 R15 M7 R16. -/
import Derived.Test.YtppggchhkckobaaGreatZR5
import Derived.Test.YtppggchhkckobaaGreatZM3
import Derived.Deep.RegionWith
import Derived.Deep.RegionHeld3
namespace Go.Proofs.YtppggchhkckobaaGreat
open Go.RowKit
def FD.pwr (D : FD) (x k : Nat) : Nat := again (fun r => D.mul r x) k 1
def FD.frob1 (D : FD) (a : Nat) : Nat := if a = 0 then 0 else D.pw a D.p
theorem pwr_lt {D : FD} (hD : D ∈ fieldsL) (x : Nat) : ∀ k,D.pwr x k < D.q
 | 0 => by have := (fld hD).q2; show 1 < D.q; omega
 | k + 1 => (fld hD).mul_lt _ _
theorem pwr_is {D : FD} (hD : D ∈ fieldsL) (x : Nat) (h0 : x ≠ 0) : ∀ k,D.pwr x k = D.pw x k
 | 0 => (pw_zero hD x).symm
 | k + 1 => by
   show D.mul (D.pwr x k) x = _
   rw [pwr_is hD x h0 k,pw_succ hD x k h0]
theorem pwr_frob {D : FD} (hD : D ∈ fieldsL) (x : Nat) : D.pwr x D.p = D.frob1 x := by
 unfold FD.frob1
 by_cases h0 : x = 0
 · have := (fld hD).p2
   rw [if_pos h0,h0,show D.p = (D.p - 1) + 1 from by omega]
   show D.mul (D.pwr 0 (D.p - 1)) 0 = 0
   simp [FD.mul]
 · rw [if_neg h0,pwr_is hD x h0]
theorem frob1_lt {D : FD} (hD : D ∈ fieldsL) (x : Nat) : D.frob1 x < D.q := by rw [← pwr_frob hD]; exact pwr_lt hD x D.p
theorem frob_lt {D : FD} (hD : D ∈ fieldsL) (x : Nat) (hx : x < D.q) (k : Nat) : again D.frob1 k x < D.q := again_lt _ _ (fun a _ => frob1_lt hD a) k x hx
theorem rmul_nat {D : FD} (hD : D ∈ fieldsL) (gen : Nat) {v : Value} {w : World} (hM : ModAt D v D.md w) (a b : Nat) (ha : a < D.q) (hb : b < D.q) (wr : World) (h : Below w.heap.size w wr) :
   Calls Tryz.prog 90 #[.agg #[.int .i64 D.q, .int .i64 D.p, .int .i64 D.m, .int .i64 gen,v], .int .i64 a, .int .i64 b] wr fun e w' => e = .returned (.int .i64 (D.mul a b : Nat)) ∧ Below wr.heap.size wr w' := by
 rw [← mulZ_nat (fld hD) ha hb]
 exact rmul_any hD gen a b (hM.below h)
theorem emod_tmod (k n : Int) : k.tmod n % n = k % n := by
 rw [Int.tmod_def]
 exact Int.sub_mul_emod_self_left _ _ _
theorem emod_of_tmod_neg (k n : Int) (hn : 0 < n) (h : k.tmod n < 0) : k.tmod n + n = k % n := by
 have h2 := Int.lt_tmod_of_pos k hn
 rw [← emod_tmod k n, ← Int.add_emod_right (k.tmod n) n]
 exact (Int.emod_eq_of_lt (by omega) (by omega)).symm
theorem emod_of_tmod_pos (k n : Int) (hn : 0 < n) (h : 0 ≤ k.tmod n) : k.tmod n = k % n := by
 have h2 := Int.tmod_lt_of_pos k hn
 rw [← emod_tmod k n]
 exact (Int.emod_eq_of_lt h h2).symm
set_option maxHeartbeats 4000000 in
theorem rpow_any {D : FD} (hD : D ∈ fieldsL) (gen : Nat) {v : Value} (a k : Int) {w : World} (hk1 : -9223372036854775808 ≤ k) (hk2 : k ≤ 9223372036854775807) (hM : ModAt D v D.md w) :
   Calls Tryz.prog 44 #[rf D.q D.p D.m gen v, .int .i64 a, .int .i64 k] w fun e w' => e = .returned (.int .i64 (D.powZ a k)) ∧ Below w.heap.size w w' := by
 have F := fld hD
 have h64 := F.q64
 have h2 := F.q2
 have HM : Hid (ModAt D v D.md w ∧ D ∈ fieldsL ∧ Fld D) := ⟨hM,hD,F⟩
 have HA : Hid (∀ (w0 : World),Calls Tryz.prog 89 #[.agg #[.int .i64 D.q, .int .i64 D.p, .int .i64 D.m, .int .i64 gen,v], .int .i64 a] w0 fun e w' => e = .returned (.bool (D.has a)) ∧ Below w0.heap.size w0 w') := fun w0 => rhas_any D gen v a w0
 clear hM hD F
 by_cases ha : D.has a = true
 · by_cases hk : k = 0
   · have hz : (k == 0) = true := by rw [hk]; rfl
     have hkn : ¬ k < 0 := by omega
     have HV : Hid (D.powZ a k = 1) := by show D.powZ a k = _; rw [FD.powZ,if_neg (by simp [ha]),if_pos hk]
     clear hk
     by_cases ha0 : a = 0
     · have hz0 : (a == 0) = true := beq_iff_eq.2 ha0
       clear ha0
       unfold rf
       go_enter Tryz.func44,Tryz.ntmps44
       go_wp2_with fail
       refine (HA.out _).mono ?_
       rintro e w1 ⟨rfl,hb1⟩
       have HB1 : Hid (Below w.heap.size w w1) := ((Below.refl _ _).alloc (Nat.le_refl _) _).trans (hb1.mono (by simp))
       clear hb1
       go_wp2
       go_ret
       exact ⟨ret_int (by rw [HV.out]),HB1.out⟩
     · have hz0 : (a == 0) = false := beq_eq_false_iff_ne.2 ha0
       clear ha0
       unfold rf
       go_enter Tryz.func44,Tryz.ntmps44
       go_wp2_with fail
       refine (HA.out _).mono ?_
       rintro e w1 ⟨rfl,hb1⟩
       have HB1 : Hid (Below w.heap.size w w1) := ((Below.refl _ _).alloc (Nat.le_refl _) _).trans (hb1.mono (by simp))
       clear hb1
       go_wp2
       go_ret
       exact ⟨ret_int (by rw [HV.out]),HB1.out⟩
   have hkz : (k == 0) = false := beq_eq_false_iff_ne.2 hk
   by_cases ha0 : a = 0
   · have hz0 : (a == 0) = true := beq_iff_eq.2 ha0
     by_cases hneg : k < 0
     · have HV : Hid (D.powZ a k = -1) := by show D.powZ a k = _; rw [FD.powZ,if_neg (by simp [ha]),if_neg hk,if_pos ha0,if_pos hneg]
       clear ha0 hk
       unfold rf
       go_enter Tryz.func44,Tryz.ntmps44
       go_wp2_with fail
       refine (HA.out _).mono ?_
       rintro e w1 ⟨rfl,hb1⟩
       have HB1 : Hid (Below w.heap.size w w1) := ((Below.refl _ _).alloc (Nat.le_refl _) _).trans (hb1.mono (by simp))
       clear hb1
       go_wp2
       go_ret
       exact ⟨ret_int (by rw [HV.out]),HB1.out⟩
     · have HV : Hid (D.powZ a k = 0) := by show D.powZ a k = _; rw [FD.powZ,if_neg (by simp [ha]),if_neg hk,if_pos ha0,if_neg hneg]
       clear ha0 hk
       unfold rf
       go_enter Tryz.func44,Tryz.ntmps44
       go_wp2_with fail
       refine (HA.out _).mono ?_
       rintro e w1 ⟨rfl,hb1⟩
       have HB1 : Hid (Below w.heap.size w w1) := ((Below.refl _ _).alloc (Nat.le_refl _) _).trans (hb1.mono (by simp))
       clear hb1
       go_wp2
       go_ret
       exact ⟨ret_int (by rw [HV.out]),HB1.out⟩
   obtain ⟨x,rfl,hx⟩ := has_nat ha
   have hx0 : x ≠ 0 := by intro e; exact ha0 (by rw [e]; rfl)
   have hz0 : ((x : Int) == 0) = false := beq_eq_false_iff_ne.2 ha0
   obtain ⟨r,hr,hrq⟩ : ∃ r : Nat,k % ((D.q : Int) - 1) = r ∧ r < D.q - 1 := by
     have h1 := Int.emod_nonneg k (show (D.q : Int) - 1 ≠ 0 from by omega)
     have h2 := Int.emod_lt_of_pos k (show 0 < (D.q : Int) - 1 from by omega)
     exact ⟨(k % ((D.q : Int) - 1)).toNat,by omega,by omega⟩
   have HV : Hid (D.powZ x k = (D.pwr x r : Nat)) := by
     show D.powZ x k = _
     rw [FD.powZ,if_neg (by simp [ha]),if_neg hk,if_neg ha0,show ((D.q - 1 : Nat) : Int) = (D.q : Int) - 1 from by omega,hr,pwr_is HM.out.2.1 x hx0]
     rfl
   have HR : Hid (k % ((D.q : Int) - 1) = r) := hr
   have hb1 := Int.tmod_lt_of_pos k (show (0 : Int) < (D.q : Int) - 1 from by omega)
   have hb2 := Int.lt_tmod_of_pos k (show (0 : Int) < (D.q : Int) - 1 from by omega)
   clear hx0 ha0 hr hk
   unfold rf
   go_enter Tryz.func44,Tryz.ntmps44
   go_wp2_with fail
   refine (HA.out _).mono ?_
   rintro e w1 ⟨rfl,hb1⟩
   have HX1 : Hid (Box w.heap.size D gen v w1 ∧ Below w.heap.size w w1) := ⟨(box_new D gen v w).below hb1 (by simp),((Below.refl _ _).alloc (Nat.le_refl _) _).trans (hb1.mono (by simp))⟩
   have hs1 : w.heap.size < w1.heap.size := by have := hb1.size; simp at this; omega
   obtain ⟨c0,c1,c2,c3,c4⟩ := HX1.out.1
   clear hb1
   go_wp2
   all_goals
     first
       | rw [show decide (k.tmod ((D.q : Int) - 1) < 0) = true from decide_eq_true ‹_›,show k.tmod ((D.q : Int) - 1) + (D.q : Int) - 1 = (r : Int) from by have h := emod_of_tmod_neg k ((D.q : Int) - 1) (by omega) ‹_›; rw [HR.out] at h; omega]
       | rw [show decide (k.tmod ((D.q : Int) - 1) < 0) = false from decide_eq_false (by omega),show k.tmod ((D.q : Int) - 1) = (r : Int) from by have h := emod_of_tmod_pos k ((D.q : Int) - 1) (by omega) (by omega); rw [HR.out] at h; exact h]
     clear hb1 hb2 HR c0 c1 c2 c3 c4
     go_loopw [7,8] (fun r' i wr => ∃ j : Nat,j ≤ r ∧ i = .int .i64 j ∧ r' = .int .i64 (D.pwr x j : Nat) ∧ Box w.heap.size D gen v wr ∧ Below w.heap.size w wr ∧ w.heap.size < wr.heap.size) (fun _ i _ => r - (intOf i).toNat)
     case atStart => exact ⟨0,by omega,rfl,rfl,HX1.out.1,HX1.out.2,hs1⟩
     case round =>
       obtain ⟨j,hj,rfl,rfl,hbox,hbel,hlt⟩ := hrel
       obtain ⟨c0,c1,c2,c3,c4⟩ := hbox
       have HG : Hid (Box w.heap.size D gen v wr ∧ Below w.heap.size w wr) := ⟨⟨c0,c1,c2,c3,c4⟩,hbel⟩
       clear hbel
       have HC : Hid (Calls Tryz.prog 90 #[.agg #[.int .i64 D.q, .int .i64 D.p, .int .i64 D.m, .int .i64 gen,v], .int .i64 (D.pwr x j : Nat), .int .i64 x] wr fun e w' => e = .returned (.int .i64 (D.pwr x (j + 1) : Nat)) ∧ Below wr.heap.size wr w') :=
         rmul_nat HM.out.2.1 gen HM.out.1 _ x (pwr_lt HM.out.2.1 x j) hx wr HG.out.2
       by_cases hjr : j < r
       · go_wp2_with fail
         refine HC.out.mono ?_
         rintro e w2 ⟨rfl,hb2⟩
         have HR2 : Hid (Box w.heap.size D gen v w2 ∧ Below w.heap.size w w2 ∧ w.heap.size < w2.heap.size) := ⟨HG.out.1.below hb2 hlt,HG.out.2.trans (hb2.mono (by omega)),by have := hb2.size; omega⟩
         clear hb2 c0 c1 c2 c3 c4 HC
         go_wp2
         go_roundw
         case rel => exact ⟨j + 1,by omega,by go_num,rfl,HR2.out⟩
         case measure => simp [intOf]; omega
       · have HE : Hid (j = r) := by show j = r; omega
         go_wp2
         go_ret
         exact ⟨ret_int (by rw [HV.out,HE.out]),HG.out.2⟩
 · have ha' : D.has a = false := by simpa using ha
   have HV : Hid (D.powZ a k = -1) := by show _ = _; rw [FD.powZ,if_pos ha']
   rw [ha'] at HA
   clear ha
   unfold rf
   go_enter Tryz.func44,Tryz.ntmps44
   go_wp2_with fail
   refine (HA.out _).mono ?_
   rintro e w1 ⟨rfl,hb1⟩
   have HB1 : Hid (Below w.heap.size w w1) := ((Below.refl _ _).alloc (Nat.le_refl _) _).trans (hb1.mono (by simp))
   clear hb1
   go_wp2
   go_ret
   exact ⟨ret_int (by rw [HV.out]),HB1.out⟩
def FD.traceTo (D : FD) (a : Nat) : Nat → Nat
 | 0 => 0
 | k + 1 => sumD D.p D.q (D.traceTo a k) (again D.frob1 k a)
def FD.normTo (D : FD) (a : Nat) : Nat → Nat
 | 0 => 1
 | k + 1 => D.mul (D.normTo a k) (again D.frob1 k a)
def SliceI (v : Value) (l : List Int) (w : World) : Prop :=
 (l = [] ∧ ∃ ao cap,v = .slice ao 0 cap) ∨ (l ≠ [] ∧ l.length ≤ 1000000 ∧ ∃ b off cap,v = .slice (some ⟨b,off,none⟩) l.length cap ∧ ∀ j,j < l.length → w.cell? ⟨b,off + j,none⟩ = some (.int .i64 (l.getD j 0)))
theorem OwnI.slice {base : Nat} {v : Value} {l : List Int} {w : World} (h : OwnI base v l w) (hl : l.length ≤ 1000000) : SliceI v l w := by
 by_cases e : l = []
 · refine Or.inl ⟨e, ?_⟩
   rcases h.2 with ⟨h1,_⟩ | ⟨g,cap,cur,hv,_⟩
   · exact ⟨none,0,h1⟩
   · rw [e] at hv; exact ⟨_,cap,hv⟩
 · obtain ⟨g,cap,hv,_,_,hc,_⟩ := h.at e
   exact Or.inr ⟨e,hl,g,0,cap,hv,fun j hj => by rw [Nat.zero_add]; exact hc j hj⟩
theorem SliceI.below {B : Nat} {v : Value} {l : List Int} {w w' : World} (h : SliceI v l w) (hb : Below B w w') (hB : ∀ k,v.ownBlock = some k → k < B) : SliceI v l w' := by
 rcases h with h | ⟨h1,h2,b,off,cap,rfl,hc⟩
 · exact Or.inl h
 · exact Or.inr ⟨h1,h2,b,off,cap,rfl,fun j hj => ((bcell hb).1 b (off + j) (hB b rfl)).trans (hc j hj)⟩
theorem SliceI.drewN {v : Value} {l : List Int} {w : World} (h : SliceI v l w) (n : Nat) : SliceI v l (w.drewN n) := h
theorem list_ext_getD (l m : List Int) (h : l.length = m.length) (e : ∀ j,j < l.length → l.getD j 0 = m.getD j 0) : l = m := by
 apply List.ext_getElem h
 intro i h1 h2
 have := e i h1
 rwa [List.getD_eq_getElem?_getD,List.getD_eq_getElem?_getD,List.getElem?_eq_getElem h1,List.getElem?_eq_getElem h2] at this
set_option maxHeartbeats 2000000 in
theorem same_any {va vb : Value} {la lb : List Int} {w : World} (ha : SliceI va la w) (hb : SliceI vb lb w) :
   Calls Tryz.prog 48 #[va,vb] w fun e w' => e = .returned (.bool (decide (la = lb))) ∧ ∃ n,w' = w.drewN n := by
 by_cases hlen : la.length = lb.length
 · rcases ha with ⟨rfl,ao,ca,rfl⟩ | ⟨h1,h2,b,off,cap,rfl,hc⟩
   · have h0 : lb = [] := List.length_eq_zero_iff.1 hlen.symm
     subst h0
     rcases hb with ⟨_,bo,cb,rfl⟩ | ⟨h3,_⟩
     · clear hlen
       go_enter Tryz.func48,Tryz.ntmps48
       go_wp2
       refine wp_loop_rounds 1 ?_
       rw [rounds_succ]
       go_wp2
       go_ret
       exact ⟨rfl,0,rfl⟩
     · exact absurd rfl h3
   · rcases hb with ⟨rfl,bo,cb,rfl⟩ | ⟨h3,h4,b',off',cap',rfl,hc'⟩
     · exact absurd (List.length_eq_zero_iff.1 hlen) h1
     · obtain ⟨n,hn⟩ : ∃ n,n = la.length := ⟨_,rfl⟩
       rw [← hlen, ← hn]
       have HC : Hid ((∀ j,j < n → w.cell? ⟨b,off + j,none⟩ = some (.int .i64 (la.getD j 0))) ∧ (∀ j,j < n → w.cell? ⟨b',off' + j,none⟩ = some (.int .i64 (lb.getD j 0)))) := ⟨fun j hj => hc j (by omega),fun j hj => hc' j (by omega)⟩
       have HL : Hid (n = la.length ∧ la.length = lb.length) := ⟨hn,hlen⟩
       have hnb : n ≤ 1000000 := by omega
       clear hc hc' h1 h2 h3 h4 hlen hn
       go_enter Tryz.func48,Tryz.ntmps48
       go_wp2
       go_loopw [5] (fun i wr => ∃ k : Nat,k ≤ n ∧ i = .int .i64 k ∧ Hid (∀ j,j < k → la.getD j 0 = lb.getD j 0) ∧ ∃ d,wr = w.drewN d) (fun i _ => n - (intOf i).toNat)
       case atStart => exact ⟨0,by omega,rfl,fun j hj => by omega,0,rfl⟩
       case round =>
         obtain ⟨k,hk,rfl,HK,d,rfl⟩ := hrel
         by_cases hlt : k < n
         · have c1 := HC.out.1 k hlt
           have c2 := HC.out.2 k hlt
           obtain ⟨x,hx⟩ : ∃ x,x = la.getD k 0 := ⟨_,rfl⟩
           obtain ⟨y,hy⟩ : ∃ y,y = lb.getD k 0 := ⟨_,rfl⟩
           rw [← hx] at c1
           rw [← hy] at c2
           have HX : Hid (x = la.getD k 0 ∧ y = lb.getD k 0) := ⟨hx,hy⟩
           clear hx hy
           by_cases he : x = y
           · have hb : (x != y) = false := by rw [he]; simp
             have HK2 : Hid (∀ j,j < k + 1 → la.getD j 0 = lb.getD j 0) := fun j hj => if e : j = k then by rw [e, ← HX.out.1, ← HX.out.2,he] else HK.out j (by omega)
             clear he
             go_wp2
             go_quiet (fail)
             go_wp2
             go_roundw
             case rel => exact ⟨k + 1,by omega,by go_num,HK2.out,_,rfl⟩
             case measure => simp [intOf]; omega
           · have hb : (x != y) = true := by rw [bne_iff_ne]; exact he
             have HV : Hid (decide (la = lb) = false) := by
               show _ = _
               rw [decide_eq_false_iff_not]; intro e; exact he (by rw [HX.out.1,HX.out.2,e])
             clear he
             go_wp2
             go_quiet (fail)
             go_wp2
             go_ret
             exact ⟨ret_bool (by rw [HV.out]),_,by rw [World.drewN_drewN]⟩
         · have HV : Hid (decide (la = lb) = true) := by
             show _ = _
             rw [decide_eq_true_eq]; exact list_ext_getD la lb HL.out.2 (fun j hj => HK.out j (by have := HL.out.1; omega))
           go_wp2
           go_ret
           exact ⟨ret_bool (by rw [HV.out]),_,rfl⟩
 · have HV : Hid (decide (la = lb) = false) := by
     show _ = _
     rw [decide_eq_false_iff_not]; intro e; exact hlen (by rw [e])
   obtain ⟨ao,ca,ea⟩ : ∃ ao ca,va = .slice ao la.length ca := by
     rcases ha with ⟨rfl,ao,ca,rfl⟩ | ⟨_,_,b,off,cap,rfl,_⟩
     · exact ⟨ao,ca,rfl⟩
     · exact ⟨_,cap,rfl⟩
   obtain ⟨bo,cb,eb⟩ : ∃ bo cb,vb = .slice bo lb.length cb := by
     rcases hb with ⟨rfl,ao,ca,rfl⟩ | ⟨_,_,b,off,cap,rfl,_⟩
     · exact ⟨ao,ca,rfl⟩
     · exact ⟨_,cap,rfl⟩
   subst ea eb
   have hne : (((la.length : Nat) : Int) != ((lb.length : Nat) : Int)) = true := by rw [bne_iff_ne]; exact_mod_cast hlen
   generalize la.length = n at *
   generalize lb.length = m at *
   clear ha hb hlen
   go_enter Tryz.func48,Tryz.ntmps48
   go_wp2
   go_ret
   exact ⟨ret_bool (by rw [HV.out]),0,rfl⟩
theorem mem_getD {l : List Int} {x : Int} : x ∈ l ↔ ∃ j,j < l.length ∧ l.getD j 0 = x := by
 constructor
 · intro h
   obtain ⟨j,hj,e⟩ := List.getElem_of_mem h
   exact ⟨j,hj,by rw [List.getD_eq_getElem?_getD,List.getElem?_eq_getElem hj]; exact e⟩
 · rintro ⟨j,hj,e⟩
   rw [List.getD_eq_getElem?_getD,List.getElem?_eq_getElem hj] at e
   rw [← e]; exact List.getElem_mem hj
set_option maxHeartbeats 2000000 in
theorem in_any {v : Value} {l : List Int} {w : World} (x : Int) (h : SliceI v l w) :
   Calls Tryz.prog 53 #[.int .i64 x,v] w fun e w' => e = .returned (.bool (decide (x ∈ l))) ∧ ∃ n,w' = w.drewN n := by
 rcases h with ⟨rfl,ao,ca,rfl⟩ | ⟨h1,h2,b,off,cap,rfl,hc⟩
 · go_enter Tryz.func53,Tryz.ntmps53
   go_wp2
   refine wp_loop_rounds 1 ?_
   rw [rounds_succ]
   go_wp2
   go_ret
   exact ⟨rfl,0,rfl⟩
 · obtain ⟨n,hn⟩ : ∃ n,n = l.length := ⟨_,rfl⟩
   rw [← hn]
   have HC : Hid ((∀ j,j < n → w.cell? ⟨b,off + j,none⟩ = some (.int .i64 (l.getD j 0))) ∧ n = l.length) := ⟨fun j hj => hc j (by omega),hn⟩
   have hnb : n ≤ 1000000 := by omega
   clear hc h1 h2 hn
   go_enter Tryz.func53,Tryz.ntmps53
   go_wp2
   go_loopw [5] (fun i wr => ∃ k : Nat,k ≤ n ∧ i = .int .i64 k ∧ Hid (∀ j,j < k → l.getD j 0 ≠ x) ∧ ∃ d,wr = w.drewN d) (fun i _ => n - (intOf i).toNat)
   case atStart => exact ⟨0,by omega,rfl,fun j hj => by omega,0,rfl⟩
   case round =>
     obtain ⟨k,hk,rfl,HK,d,rfl⟩ := hrel
     by_cases hlt : k < n
     · have c1 := HC.out.1 k hlt
       obtain ⟨y,hy⟩ : ∃ y,y = l.getD k 0 := ⟨_,rfl⟩
       rw [← hy] at c1
       have HX : Hid (y = l.getD k 0) := hy
       clear hy
       by_cases he : y = x
       · have hb : (y == x) = true := beq_iff_eq.2 he
         have HV : Hid (decide (x ∈ l) = true) := by
           show _ = _
           rw [decide_eq_true_eq]; exact mem_getD.2 ⟨k,by have := HC.out.2; omega,by rw [← HX.out,he]⟩
         clear he
         go_wp2
         go_ret
         exact ⟨ret_bool (by rw [HV.out]),_,by first | rfl | rw [World.drewN_drewN]⟩
       · have hb : (y == x) = false := beq_eq_false_iff_ne.2 he
         have HK2 : Hid (∀ j,j < k + 1 → l.getD j 0 ≠ x) := fun j hj => if e : j = k then by rw [e, ← HX.out]; exact he else HK.out j (by omega)
         clear he
         go_wp2
         go_roundw
         case rel => exact ⟨k + 1,by omega,by go_num,HK2.out,_,rfl⟩
         case measure => simp [intOf]; omega
     · have HV : Hid (decide (x ∈ l) = false) := by
         show _ = _
         rw [decide_eq_false_iff_not]; intro e
         obtain ⟨j,hj,e⟩ := mem_getD.1 e
         exact HK.out j (by have := HC.out.2; omega) e
       go_wp2
       go_ret
       exact ⟨ret_bool (by rw [HV.out]),_,rfl⟩
theorem RowF.own {g n base : Nat} {f : Nat → Value} {l : List Int} {w : World} (h : RowF g n 3 f w) (hl : l.length = n) (hf : ∀ j,j < n → f j = .int .i64 (l.getD j 0)) (hb : base ≤ g) (hn : n ≤ 1000000) : OwnI base (.slice (some ⟨g,0,none⟩) n n) l w := by
 obtain ⟨cs,h1,h2,h3⟩ := h
 refine ⟨by simp,Or.inr ⟨g,n,cs,by rw [hl],hb,h1,by omega,by unfold maxLen; omega,by omega, ?_⟩⟩
 rw [hl,Nat.mul_one,List.take_of_length_le (by simp; omega)]
 apply List.ext_getElem?
 intro i
 by_cases hi : i < n
 · rw [Array.getElem?_toList,h3 i hi,hf i hi,List.getElem?_map,List.getD_eq_getElem?_getD,List.getElem?_eq_getElem (by omega)]; rfl
 · rw [List.getElem?_eq_none (by simp; omega),List.getElem?_eq_none (by simp; omega)]
set_option maxHeartbeats 2000000 in
theorem tdigits_any {F T : Nat} {D : FD} (hD : D ∈ fieldsL) {g : Nat → Value} {w : World} (h : FAt F T D g w) (a : Nat) (ha : a < 64) :
   Calls Tryz.prog 116 #[.pointer (some ⟨T,0,none⟩), .int .i64 a] w fun e w' => ∃ v,e = .returned v ∧ OwnI w.heap.size v (digL D.p a D.m) w' ∧ Below w.heap.size w w' := by
 have hc2 : w.cell? ⟨T,2,none⟩ = some (.int .i64 D.m) := by rw [h.row.cell 2 (by omega),h.tab.c2]
 have hT := h.ltT
 have hm1 := (fld hD).m1
 have hm6 := (fld hD).m6
 have hp2 := (fld hD).p2
 have hp64 := (fld hD).p64
 have HF : Hid (FAt F T D g w ∧ D ∈ fieldsL) := ⟨h,hD⟩
 clear h hD
 go_enter Tryz.func116,Tryz.ntmps116
 go_wp2_with (at_make; refine make_int rfl _ _ rfl _ D.m rfl rfl rfl (by omega) ?_; intro w1 hown1 hgrow1)
 have hb1 : Below w.heap.size w w1 := below_grown hgrow1 (Nat.le_refl _) (fun k hk => by simp at hk)
 obtain ⟨gl,cl,fl,hvl,hgl,hgl',hll,hcl,hrl,hfl⟩ := hown1.row D.m (by simp) (by omega)
 simp only [Value.slice.injEq,Option.some.injEq,Addr.mk.injEq,and_true,true_and] at hvl
 obtain ⟨rfl,rfl⟩ := hvl
 have HS : Hid (RowF w.heap.size D.m 3 fl w1 ∧ Below w.heap.size w w1) := ⟨hrl,hb1⟩
 clear hown1 hgrow1 hrl hfl hb1 hgl hll hcl
 go_loopw [1,14] (fun x i wr => ∃ (j y : Nat) (f : Nat → Value),j ≤ D.m ∧ y ≤ a ∧ x = .int .i64 y ∧ i = .int .i64 j ∧ Hid (y = a / D.p ^ j) ∧ RowF w.heap.size D.m 3 f wr ∧ (∀ t,t < j → f t = .int .i64 (dg D.p a t : Nat)) ∧ Below w.heap.size w wr) (fun _ i _ => D.m - (intOf i).toNat)
 case atStart => exact ⟨0,a,fl,by omega,by omega,rfl,rfl,by simp [Hid],HS.out.1,fun t ht => by omega,HS.out.2⟩
 case round =>
   obtain ⟨j,y,f,hj,hy,rfl,rfl,HY,hrow,hf,hbel⟩ := hrel
   have hc1 : wr.cell? ⟨T,1,none⟩ = some (.int .i64 D.p) := by rw [(bcell hbel).1 T 1 hT,HF.out.1.row.cell 1 (by omega),HF.out.1.tab.sum.c1]
   have HG : Hid (RowF w.heap.size D.m 3 f wr ∧ (∀ t,t < j → f t = .int .i64 (dg D.p a t : Nat)) ∧ Below w.heap.size w wr) := ⟨hrow,hf,hbel⟩
   clear hrow hf hbel
   by_cases hlt : j < D.m
   · have hcs := HG.out.1.cell j hlt
     have hfs := HG.out.1.free j
     have hne : ¬ T = w.heap.size := by omega
     have HN : Hid (y / D.p = a / D.p ^ (j + 1)) := by show _ = _; rw [HY.out,Nat.div_div_eq_div_mul,Nat.pow_succ]
     have HD2 : Hid (y % D.p = dg D.p a j) := by show _ = _; rw [HY.out]; rfl
     have hq1 : y / D.p ≤ y := Nat.div_le_self _ _
     go_wp2
     go_roundw
     case rel => exact ⟨j + 1,y / D.p,_,by omega,by omega,by rw [w_quo y D.p (by omega)],by go_num,HN.out,HG.out.1.store _ _,fun t ht => if e : t = j then by rw [e,upd_at, ← HD2.out]; rfl else (upd_ne _ _ _ e).trans (HG.out.2.1 t (by omega)),HG.out.2.2.setCell (by simp) _⟩
     case measure => simp [intOf]; omega
   · have HV : Hid (OwnI w.heap.size (.slice (some ⟨w.heap.size, 0, none⟩) D.m D.m) (digL D.p a D.m) wr) :=
       HG.out.1.own (digL_len _ _ _) (fun t ht => by rw [HG.out.2.1 t (by omega),digL_get _ _ _ _ ht]) (Nat.le_refl _) (by omega)
     go_wp2
     go_ret
     exact ⟨_,rfl,HV.out,HG.out.2.2⟩
theorem low_lt {D : FD} (hD : D ∈ fieldsL) : D.low < D.q := by
 have F := fld hD
 by_cases hm : D.m = 1
 · have := (F.least1 hm).2.2.2.1; have := F.q2; omega
 · exact (F.least2 hm).2.1
theorem step_append_int {ops : Array Oper} {o : Oper} {a : Act} {w : World} {K : Act → World → Prop} {Q : Exit → Act → World → Prop} {E : Prop} (hgd : o.guard = none) (s x : Operand)
   (ho : o.op = .call { callee := .builtin .append,args := #[s,x],argTypes := #[22,22] })
   (base : Nat) (v : Value) (l : List Int) (hs : a.eval s = v) (hown : OwnI base v l w) (ad : Addr) (c : Nat) (y : Int) (hx : a.eval x = .slice (some ad) 1 c) (hcell : w.cell? ad = some (.int .i64 y))
   (hlen : l.length ≤ 1000000) (hbase : base ≤ w.heap.size)
   (h : ∀ v' w',OwnI base v' (l ++ [y]) w' → w.grownBy w' v.ownBlock → K (a.put o.dst v') w') : if Region.wanted o (yielded ops a.tmps) = true then Oper.wp Tryz.prog o a w K Q else E := by
 have hw : Region.wanted o (yielded ops a.tmps) = true := by simp [Region.wanted,hgd]
 rw [if_pos hw]
 obtain ⟨i0,hi,hz0,hz1,hz2⟩ := info_parts Tryz.infoInt
 refine wp_append_own w s x 22 ho base 3 i0 (.int .i64 0) 1 8 Tryz.underlying22 hi hz0 hz1 hz2 rfl (by decide) v l.length _ hs hown ad 1 c [.int .i64 y] hx rfl ?_ ?_ ?_ ?_ hbase ?_
 · intro j u hj
   match j,hj with
   | 0,hj =>
     simp at hj; subst hj
     have : ad.add 0 = ad := by cases ad with | mk b o s => cases s <;> simp [Addr.add]
     rw [this]; exact hcell
 · intro u hu; simp at hu; subst hu; rfl
 · unfold maxLen; omega
 · omega
 · intro v' w' hown' hgrow _
   refine h v' w' ?_ hgrow
   unfold OwnI
   rw [List.map_append,List.length_append]
   exact hown'
theorem bel_up {B : Nat} {w W w1 : World} (h0 : Below B w W) (h : Below W.heap.size W w1) (hB : B ≤ w.heap.size := by exact Nat.le_refl _) : Below B w w1 := h0.trans (h.mono (Nat.le_trans hB h0.size))
set_option maxHeartbeats 4000000 in
set_option maxRecDepth 100000 in
theorem poly_any {F T : Nat} {D : FD} (hD : D ∈ fieldsL) {g : Nat → Value} {w : World} (h : FAt F T D g w) :
   Calls Tryz.prog 132 #[.pointer (some ⟨F,0,none⟩)] w fun e w' => ∃ v,e = .returned v ∧ OwnI w.heap.size v D.modL w' ∧ Below w.heap.size w w' := by
 have hp := h.ptr
 have hc3 : w.cell? ⟨T,3,none⟩ = some (.int .i64 D.low) := by rw [h.row.cell 3 (by omega),h.tab.c3]
 have hF := h.ltF
 have hT := h.ltT
 have hm6 := (fld hD).m6
 have hll := low_lt hD
 have h64 := (fld hD).q64
 have HF : Hid (FAt F T D g w ∧ D ∈ fieldsL) := ⟨h,hD⟩
 have hlen := digL_len D.p D.low D.m
 have nF := World.new_ne w _ hp
 have nT := World.new_ne w _ hc3
 clear h hD
 go_enter Tryz.func132,Tryz.ntmps132
 go_wp2
 go_region_held3 (fun w' => w'.cell? ⟨F,0,none⟩ = some (.pointer (some ⟨T,0,none⟩)) ∧ w'.cell? ⟨T,3,none⟩ = some (.int .i64 (D.low : Nat)))
   (first | go_keep | exact ⟨(hB2.cell (p := ⟨F,0,none⟩) hF).trans hp,(hB2.cell (p := ⟨T,3,none⟩) hT).trans hc3⟩ | exact ⟨(hB1.cell (p := ⟨F,0,none⟩) hF).trans hp,(hB1.cell (p := ⟨T,3,none⟩) hT).trans hc3⟩)
   (first
     | (go_at_call 116; refine (tdigits_any HF.out.2 (HF.out.1.below (B := w.heap.size) (by first | exact (Below.refl _ _).drew | exact ((Below.refl _ _).alloc (Nat.le_refl _) _).drew) hF hT) D.low (by omega)).mono ?_; rintro e w1 ⟨v1,rfl,hown1,hb1⟩; have hB1 : Below w.heap.size w w1 := bel_up (by first | exact (Below.refl _ _).drew | exact ((Below.refl _ _).alloc (Nat.le_refl _) _).drew) hb1)
     | (refine step_append_int (by rfl) _ _ (by rfl) w.heap.size _ (digL D.p D.low D.m) (by rfl) (hown1.mono (by simp)) ⟨w.heap.size,0,none⟩ 1 1 (by rfl) ((hb1.cell (p := ⟨w.heap.size,0,none⟩) (by simp)).trans (by simp)) (by omega) (by have := hb1.size; simp at this; omega) ?_; intro v2 w2 hown2 hgrow2; have hB2 : Below w.heap.size w w2 := hB1.grown hgrow2 hB1.size (fun k hk => by have := (hown1.lt k hk).1; simp at this; omega))
     | (refine step_append_int (by rfl) _ _ (by rfl) w.heap.size _ (digL D.p D.low D.m) (by rfl) ((hown1.mono (by simp)).alloc _) ⟨w1.heap.size,0,none⟩ 1 1 (by rfl) (by simp) (by omega) (by have := hb1.size; simp at this ⊢; omega) ?_; intro v2 w2 hown2 hgrow2; have hB2 : Below w.heap.size w w2 := (hB1.alloc hB1.size _).grown hgrow2 (by have := hB1.size; simp; omega) (fun k hk => by have := (hown1.lt k hk).1; simp at this; omega)))
 all_goals
   go_wp2
   go_ret
   exact ⟨_,rfl,hown2,hB2⟩
theorem pw_pw {D : FD} (hD : D ∈ fieldsL) (a x y : Nat) : D.pw (D.pw a x) y = D.pw a (x * y) := by
 have h := pw_ne hD a x
 unfold FD.pw at *
 rw [h.2,Nat.mul_mod,Nat.mod_mod, ← Nat.mul_mod,Nat.mul_assoc]
theorem pw_one {D : FD} (hD : D ∈ fieldsL) (a : Nat) (ha : a < D.q) (h0 : a ≠ 0) : D.pw a 1 = a := by
 have h := (fld hD).lg_is a ha h0
 unfold FD.pw
 rw [Nat.mul_one,Nat.mod_eq_of_lt h.1,h.2]
theorem frob_pw {D : FD} (hD : D ∈ fieldsL) (a : Nat) (ha : a < D.q) (h0 : a ≠ 0) : ∀ k,again D.frob1 k a = D.pw a (D.p ^ k)
 | 0 => by rw [Nat.pow_zero,pw_one hD a ha h0]; rfl
 | k + 1 => by
   show D.frob1 (again D.frob1 k a) = _
   rw [frob_pw hD a ha h0 k,FD.frob1,if_neg (pw_ne hD a _).1,pw_pw hD,Nat.pow_succ]
theorem frob_zero {D : FD} : ∀ k,again D.frob1 k 0 = 0
 | 0 => rfl
 | k + 1 => by show D.frob1 (again D.frob1 k 0) = 0; rw [frob_zero k,FD.frob1,if_pos rfl]
set_option maxHeartbeats 2000000 in
theorem holds_any {F T F2 T2 : Nat} {D E : FD} (hE : E ∈ fieldsL) {g g2 : Nat → Value} {w : World} (h : FAt F T D g w) (k : FAt F2 T2 E g2 w) :
   Calls Tryz.prog 113 #[.pointer (some ⟨F,0,none⟩), .pointer (some ⟨F2,0,none⟩)] w fun e w' => e = .returned (.bool (decide (E.p = D.p ∧ D.m % E.m = 0))) ∧ ∃ n,w' = w.drewN n := by
 have hp := h.ptr
 have hp2 := k.ptr
 have a1 : w.cell? ⟨T,1,none⟩ = some (.int .i64 D.p) := by rw [h.row.cell 1 (by omega),h.tab.sum.c1]
 have a2 : w.cell? ⟨T,2,none⟩ = some (.int .i64 D.m) := by rw [h.row.cell 2 (by omega),h.tab.c2]
 have b1 : w.cell? ⟨T2,1,none⟩ = some (.int .i64 E.p) := by rw [k.row.cell 1 (by omega),k.tab.sum.c1]
 have b2 : w.cell? ⟨T2,2,none⟩ = some (.int .i64 E.m) := by rw [k.row.cell 2 (by omega),k.tab.c2]
 have m1 := (fld hE).m1
 clear h k hE
 by_cases hpp : E.p = D.p
 · have t1 : ((E.p : Int) == (D.p : Int)) = true := by rw [hpp]; simp
   have HV : Hid (decide (E.p = D.p ∧ D.m % E.m = 0) = ((D.m : Int) % (E.m : Int) == 0)) := by
     show _ = _
     rw [← Int.natCast_emod,Bool.eq_iff_iff,decide_eq_true_eq,beq_iff_eq]
     exact ⟨fun h => by rw [h.2]; rfl,fun h => ⟨hpp,by exact_mod_cast h⟩⟩
   clear hpp
   go_enter Tryz.func113,Tryz.ntmps113
   go_wp2
   go_quiet (fail)
   go_wp2
   go_ret
   exact ⟨ret_bool (by rw [HV.out]),_,rfl⟩
 · have t1 : ((E.p : Int) == (D.p : Int)) = false := by rw [beq_eq_false_iff_ne]; exact_mod_cast hpp
   have HV : Hid (decide (E.p = D.p ∧ D.m % E.m = 0) = false) := by
     show _ = _
     rw [decide_eq_false_iff_not]; exact fun h => hpp h.1
   clear hpp
   go_enter Tryz.func113,Tryz.ntmps113
   go_wp2
   go_quiet (fail)
   go_wp2
   go_ret
   exact ⟨ret_bool (by rw [HV.out]),_,rfl⟩
def FD.val (D : FD) (c : Nat → Nat) (n x : Nat) : Nat → Nat
 | 0 => 0
 | k + 1 => sumD D.p D.q (D.mul (D.val c n x k) x) (c (n - 1 - k))
theorem val_lt {D : FD} (hD : D ∈ fieldsL) (c : Nat → Nat) (n x : Nat) (hc : ∀ j,c j < D.q) : ∀ k,D.val c n x k < D.q
 | 0 => by have := (fld hD).q2; show 0 < D.q; omega
 | k + 1 => (fld hD).sum_lt _ _ ((fld hD).mul_lt _ _) (hc _)
theorem bel_up' {B : Nat} {w W w1 : World} (h0 : Below B w W) (h : Below W.heap.size W w1) (hB : B ≤ w.heap.size := by exact Nat.le_refl _) : Below B w w1 := h0.trans (h.mono (Nat.le_trans hB h0.size))
theorem radd_nat {D : FD} (hD : D ∈ fieldsL) (gen : Nat) (v : Value) (a b : Nat) (ha : a < D.q) (hb : b < D.q) (wr : World) :
   Calls Tryz.prog 61 #[.agg #[.int .i64 D.q, .int .i64 D.p, .int .i64 D.m, .int .i64 gen,v], .int .i64 a, .int .i64 b] wr fun e w' => e = .returned (.int .i64 (sumD D.p D.q a b : Nat)) ∧ Below wr.heap.size wr w' := by
 rw [← addZ_nat (fld hD) ha hb]
 exact radd_any hD gen v a b wr
set_option maxHeartbeats 4000000 in
theorem rvalue_any {D : FD} (hD : D ∈ fieldsL) (gen : Nat) {v : Value} (gl cap n x : Nat) (c : Nat → Nat) {w : World} (hx : x < D.q) (hn : n ≤ 1000) (hc : ∀ j, c j < D.q) (hgl : gl < w.heap.size) (hN : Nums gl n c w) (hM : ModAt D v D.md w) :
   Calls Tryz.prog 92 #[rf D.q D.p D.m gen v, .slice (some ⟨gl,0,none⟩) n cap, .int .i64 x] w fun e w' => e = .returned (.int .i64 (D.val c n x n : Nat)) ∧ Below w.heap.size w w' := by
 have HM : Hid (ModAt D v D.md w ∧ D ∈ fieldsL ∧ Nums gl n c w ∧ ∀ j,c j < D.q) := ⟨hM,hD,hN,hc⟩
 clear hM hD hN hc
 have HB0 : Hid (Box w.heap.size D gen v (w.alloc (.cells #[.int .i64 D.q, .int .i64 D.p, .int .i64 D.m, .int .i64 gen,v] 59))) := box_new D gen v w
 unfold rf
 go_enter Tryz.func92,Tryz.ntmps92
 go_wp2
 go_loopw [7,8] (fun s i wr => ∃ r : Nat,r ≤ n ∧ i = .int .i64 ((r : Int) - 1) ∧ s = .int .i64 (D.val c n x (n - r) : Nat) ∧ Box w.heap.size D gen v wr ∧ Below w.heap.size w wr ∧ w.heap.size < wr.heap.size) (fun _ i _ => (intOf i + 1).toNat)
 case atStart => exact ⟨n,by omega,rfl,by rw [Nat.sub_self]; rfl,HB0.out,(Below.refl _ _).alloc (Nat.le_refl _) _,by simp⟩
 case round =>
   obtain ⟨r,hr,hi,rfl,hbox,hbel,hlt⟩ := hrel
   obtain ⟨c0,c1,c2,c3,c4⟩ := hbox
   have HG : Hid (Box w.heap.size D gen v wr ∧ Below w.heap.size w wr) := ⟨⟨c0,c1,c2,c3,c4⟩,hbel⟩
   clear hbel
   cases r with
   | succ s =>
     have hi' : u8 = .int .i64 (s : Int) := by rw [hi]; go_num
     clear hi
     subst hi'
     obtain ⟨y,hy⟩ : ∃ y,y = D.val c n x (n - (s + 1)) := ⟨_,rfl⟩
     have hyq : y < D.q := by rw [hy]; exact val_lt HM.out.2.1 c n x HM.out.2.2.2 _
     have HY : Hid (D.val c n x (n - s) = sumD D.p D.q (D.mul y x) (c s)) := by
       show _ = _
       rw [hy,show n - s = (n - (s + 1)) + 1 from by omega,FD.val,show n - 1 - (n - (s + 1)) = s from by omega]
     rw [← hy]
     clear hy
     have HC : Hid (Calls Tryz.prog 90 #[.agg #[.int .i64 D.q, .int .i64 D.p, .int .i64 D.m, .int .i64 gen,v], .int .i64 y, .int .i64 x] wr fun e w' => e = .returned (.int .i64 (D.mul y x : Nat)) ∧ Below wr.heap.size wr w') :=
       rmul_nat HM.out.2.1 gen HM.out.1 y x hyq hx wr HG.out.2
     go_wp2_with fail
     refine HC.out.mono ?_
     rintro e w2 ⟨rfl,hb2⟩
     have HR2 : Hid (Box w.heap.size D gen v w2 ∧ Below w.heap.size w w2) := ⟨HG.out.1.below hb2 hlt,HG.out.2.trans (hb2.mono (by omega))⟩
     have hlt2 : w.heap.size < w2.heap.size := by have := hb2.size; omega
     clear hb2 c0 c1 c2 c3 c4 HC
     obtain ⟨c0,c1,c2,c3,c4⟩ := HR2.out.1
     have hcl : w2.cell? ⟨gl,s,none⟩ = some (.int .i64 (c s : Nat)) := (HM.out.2.2.1.below HR2.out.2 hgl) s (by omega)
     have z1 : (0 : Int) ≤ (s : Int) := by omega
     have z2 : (s : Int) < (n : Int) := by omega
     have HC2 : Hid (∀ w3 : World,Calls Tryz.prog 61 #[.agg #[.int .i64 D.q, .int .i64 D.p, .int .i64 D.m, .int .i64 gen,v], .int .i64 (D.mul y x : Nat), .int .i64 (c s : Nat)] w3 fun e w' => e = .returned (.int .i64 (sumD D.p D.q (D.mul y x) (c s) : Nat)) ∧ Below w3.heap.size w3 w') :=
       fun w3 => radd_nat HM.out.2.1 gen v _ _ ((fld HM.out.2.1).mul_lt _ _) (HM.out.2.2.2 s) w3
     have hbc : Below w2.heap.size w2 w2 := Below.refl _ _
     go_wp2_with fail
     go_region_held3 (fun w' => w'.cell? ⟨w.heap.size,0,none⟩ = some (.int .i64 (D.q : Nat)) ∧ w'.cell? ⟨w.heap.size,1,none⟩ = some (.int .i64 (D.p : Nat)) ∧ w'.cell? ⟨w.heap.size,2,none⟩ = some (.int .i64 (D.m : Nat)) ∧ w'.cell? ⟨w.heap.size,3,none⟩ = some (.int .i64 (gen : Nat)) ∧ w'.cell? ⟨w.heap.size,4,none⟩ = some v ∧ w'.cell? ⟨gl,s,none⟩ = some (.int .i64 (c s : Nat)))
       (first | go_keep | exact ⟨(HR2.out.1.below (B := w2.heap.size) hbc hlt2).c0,(HR2.out.1.below (B := w2.heap.size) hbc hlt2).c1,(HR2.out.1.below (B := w2.heap.size) hbc hlt2).c2,(HR2.out.1.below (B := w2.heap.size) hbc hlt2).c3,(HR2.out.1.below (B := w2.heap.size) hbc hlt2).c4,(HM.out.2.2.1.below (bel_up' HR2.out.2 hbc) hgl) s (by omega)⟩)
       (first | (go_at_call 61; refine (HC2.out _).mono ?_; rintro e w' ⟨rfl,hb'⟩; replace hbc := bel_up' (by first | exact hbc | exact hbc.drew) hb'; clear hb'))
     have HR3 : Hid (Box w.heap.size D gen v w' ∧ Below w.heap.size w w' ∧ w.heap.size < w'.heap.size) := ⟨HR2.out.1.below hbc hlt2,bel_up' HR2.out.2 hbc,by have := hbc.size; omega⟩
     clear c0 c1 c2 c3 c4 HC2 hcl hbc
     go_wp2
     go_roundw
     case rel => exact ⟨s,by omega,by go_num,by rw [HY.out],HR3.out⟩
     case measure => simp [intOf]
   | zero =>
     have hi' : u8 = .int .i64 (-1) := by rw [hi]; rfl
     clear hi
     subst hi'
     go_wp2
     go_ret
     exact ⟨rfl,HG.out.2⟩
end Go.Proofs.YtppggchhkckobaaGreat
namespace Go.Proofs.YtppggchhkckobaaGreat
def FD.modN (E : FD) (j : Nat) : Nat := if j = E.m then 1 else dgt E.p E.low j
def FD.xk (D E : FD) (k : Nat) : Nat := again D.st (k * ((D.q - 1) / (E.q - 1)) % (D.q - 1)) 1
def FD.isRoot (D E : FD) (k : Nat) : Bool := D.val E.modN (E.m + 1) (D.xk E k) (E.m + 1) == 0
def firstFrom (p : Nat → Bool) : Nat → Nat → Nat
 | 0,k => k
 | n + 1,k => if p k = true then k else firstFrom p n (k + 1)
theorem firstFrom_is (p : Nat → Bool) : ∀ n k,(∃ j,k ≤ j ∧ j < k + n ∧ p j = true) → k ≤ firstFrom p n k ∧ firstFrom p n k < k + n ∧ p (firstFrom p n k) = true ∧ ∀ i,k ≤ i → i < firstFrom p n k → p i = false
 | 0,k,⟨j,h1,h2,_⟩ => by omega
 | n + 1,k,⟨j,h1,h2,h3⟩ => by
   rw [firstFrom]
   by_cases hp : p k = true
   · rw [if_pos hp]; exact ⟨by omega,by omega,hp,fun i h4 h5 => by omega⟩
   · rw [if_neg hp]
     have hjk : j ≠ k := fun e => hp (e ▸ h3)
     obtain ⟨a1,a2,a3,a4⟩ := firstFrom_is p n (k + 1) ⟨j,by omega,by omega,h3⟩
     refine ⟨by omega,by omega,a3,fun i h4 h5 => ?_⟩
     by_cases e : i = k
     · subst e; simpa using hp
     · exact a4 i (by omega) h5
def FD.rootK (D E : FD) : Nat := firstFrom (D.isRoot E) (E.q - 1) 1
def FD.root (D E : FD) : Nat := if E.m = 1 then 0 else D.xk E (D.rootK E)
def FD.holdsB (D E : FD) : Bool := E.p == D.p && D.m % E.m == 0
def FD.embL (D E : FD) : List Int := (List.range E.q).map fun a => ((D.val (fun j => dg E.p a j) E.m (D.root E) E.m : Nat) : Int)
theorem roots_all : (fieldsL.all fun D => fieldsL.all fun E => !(D.holdsB E) || E.m == 1 || (List.range E.q).any fun k => decide (1 ≤ k) && D.isRoot E k) = true := by decide +kernel
theorem rootK_is {D E : FD} (hD : D ∈ fieldsL) (hE : E ∈ fieldsL) (h : E.p = D.p ∧ D.m % E.m = 0) (hm : E.m ≠ 1) :
   1 ≤ D.rootK E ∧ D.rootK E < E.q ∧ D.isRoot E (D.rootK E) = true ∧ ∀ k,1 ≤ k → k < D.rootK E → D.isRoot E k = false := by
 have h1 := List.all_eq_true.1 (List.all_eq_true.1 roots_all D hD) E hE
 have hb : D.holdsB E = true := by simp [FD.holdsB,h.1,h.2]
 have hme : (E.m == 1) = false := beq_eq_false_iff_ne.2 hm
 rw [hb,hme] at h1
 simp only [Bool.not_true,Bool.false_or] at h1
 obtain ⟨k,hk,hp⟩ := List.any_eq_true.1 h1
 rw [Bool.and_eq_true,decide_eq_true_eq] at hp
 have hk' := List.mem_range.1 hk
 obtain ⟨a1,a2,a3,a4⟩ := firstFrom_is (D.isRoot E) (E.q - 1) 1 ⟨k,hp.1,by omega,hp.2⟩
 exact ⟨a1, by have : firstFrom (D.isRoot E) (E.q - 1) 1 < E.q := by omega
               exact this,a3,a4⟩
theorem xk_lt {D E : FD} (hD : D ∈ fieldsL) (k : Nat) : D.xk E k < D.q ∧ D.xk E k ≠ 0 := by
 have F := fld hD
 have hn : k * ((D.q - 1) / (E.q - 1)) % (D.q - 1) < D.q - 1 := Nat.mod_lt _ (by have := F.q2; omega)
 exact ⟨F.pow_lt _ hn,(F.full _ hn).1⟩
theorem root_lt {D E : FD} (hD : D ∈ fieldsL) : D.root E < D.q := by
 unfold FD.root
 split
 · have := (fld hD).q2; omega
 · exact (xk_lt hD _).1
theorem modN_lt {D E : FD} (hD : D ∈ fieldsL) (hE : E ∈ fieldsL) (hp : E.p = D.p) (j : Nat) : E.modN j < D.q := by
 have h1 := (fld hD).qp
 have h2 := (fld hD).p2
 have h3 : D.p ≤ D.p ^ D.m := Nat.le_self_pow (by have := (fld hD).m1; omega) D.p
 have h4 := (fld hE).p2
 unfold FD.modN
 split
 · omega
 · have : dgt E.p E.low j < E.p := Nat.mod_lt _ (by omega)
   omega
theorem dg_ltq {D E : FD} (hD : D ∈ fieldsL) (hE : E ∈ fieldsL) (hp : E.p = D.p) (a j : Nat) : dg E.p a j < D.q := by
 have h1 := (fld hD).qp
 have h3 : D.p ≤ D.p ^ D.m := Nat.le_self_pow (by have := (fld hD).m1; omega) D.p
 have h4 := (fld hE).p2
 have : dg E.p a j < E.p := Nat.mod_lt _ (by omega)
 omega
theorem powZ_gen {D : FD} (hD : D ∈ fieldsL) (hq : 2 < D.q) (j : Nat) (hj : 1 ≤ j) : D.powZ D.gen j = (again D.st (j % (D.q - 1)) 1 : Nat) := by
 have F := fld hD
 have hs := List.all_eq_true.1 st_one D hD
 simp only [Bool.and_eq_true,beq_iff_eq,decide_eq_true_eq] at hs
 obtain ⟨⟨hs1,hs2⟩,hs3⟩ := hs
 have hg : D.lg D.gen = 1 := by
   have := F.lg_pow 1 (by omega)
   rw [show again D.st 1 1 = D.gen from hs1] at this
   exact this
 rw [FD.powZ,if_neg (by simp [nat_has hs2]),if_neg (by omega),if_neg (by omega), ← Int.natCast_emod,Int.toNat_natCast,Int.toNat_natCast,FD.pw,hg,Nat.one_mul,Nat.mod_mod]
end Go.Proofs.YtppggchhkckobaaGreat
namespace Go.Proofs.YtppggchhkckobaaGreat
open Go.RowKit
theorem modL_len' {D : FD} : D.modL.length = D.m + 1 := by unfold FD.modL; rw [List.length_append,digL_len]; rfl
end Go.Proofs.YtppggchhkckobaaGreat
