/- Texts of ours, one behind the other: KT34. -/
import Derived.Test.YtppggchhkckobaaGreatZKT32
import Derived.Test.YtppggchhkckobaaGreatZKT18
namespace Go.Proofs.YtppggchhkckobaaGreat
open Go.RowKit Go.Sort
set_option maxHeartbeats 8000000 in
set_option maxRecDepth 100000 in
theorem rsq_e1 {n : Int} (h : n < 3 ∨ 64 < n) (w : World) : Calls Tryz.prog 21 #[.int .i64 n] w (CEr 4 w) := by
 obtain ⟨w0,hw0⟩ : ∃ w0,w0 = w.alloc (.cells #[.int .i64 0, .int .i64 0, .slice none 0 0] 35) := ⟨_,rfl⟩
 have HW : Hid (Below w.heap.size w w0 ∧ RB w.heap.size w0 ∧ RBt w.heap.size w0 ∧ w0.heap.size = w.heap.size + 1) := by
   rw [hw0]; exact ⟨(Below.refl _ _).alloc (Nat.le_refl _) _,RB.new _ _ _ _,RBt.new _ _,by simp⟩
 by_cases h1 : n < 3
 · clear h
   go_enter Tryz.func21,Tryz.ntmps21
   go_upto_region 2 with fail
   rw [← hw0]
   clear hw0
   obtain ⟨⟨x0,c0⟩,⟨x1,c1⟩,⟨x2,c2⟩,f0,f1,f2⟩ := HW.out.2.1
   go_wp2
   obtain ⟨w12,hw12⟩ : ∃ w12,w12 = laid w0 w.heap.size 0 0 (.slice none 0 0) := ⟨_,rfl⟩
   have H12 : Hid (CB w.heap.size 0 0 (.slice none 0 0) w12 ∧ Below w.heap.size w w12) := by
     rw [hw12]; exact ⟨laid_cb HW.out.2.1 _ _ _,laid_below HW.out.1 (Nat.le_refl _) _ _ _⟩
   unfold laid at hw12
   rw [← hw12]
   clear hw12 c0 c1 c2 f0 f1 f2
   obtain ⟨c0,c1,c2⟩ := H12.out.1
   refine bodyPost_ret (v := .tuple #[.agg #[.int .i64 0, .int .i64 0, .slice none 0 0], .int .i64 4]) (by simp [results,Tryz.results21,go_sem,c0,c1,c2]) rfl ?_
   exact ⟨rfl,H12.out.2⟩
 · have h2 : (64 : Int) < n := by omega
   have h3 : n > 64 := h2
   clear h
   go_enter Tryz.func21,Tryz.ntmps21
   go_upto_region 2 with fail
   rw [← hw0]
   clear hw0
   obtain ⟨⟨x0,c0⟩,⟨x1,c1⟩,⟨x2,c2⟩,f0,f1,f2⟩ := HW.out.2.1
   go_wp2
   obtain ⟨w12,hw12⟩ : ∃ w12,w12 = laid w0 w.heap.size 0 0 (.slice none 0 0) := ⟨_,rfl⟩
   have H12 : Hid (CB w.heap.size 0 0 (.slice none 0 0) w12 ∧ Below w.heap.size w w12) := by
     rw [hw12]; exact ⟨laid_cb HW.out.2.1 _ _ _,laid_below HW.out.1 (Nat.le_refl _) _ _ _⟩
   unfold laid at hw12
   rw [← hw12]
   clear hw12 c0 c1 c2 f0 f1 f2
   obtain ⟨c0,c1,c2⟩ := H12.out.1
   refine bodyPost_ret (v := .tuple #[.agg #[.int .i64 0, .int .i64 0, .slice none 0 0], .int .i64 4]) (by simp [results,Tryz.results21,go_sem,c0,c1,c2]) rfl ?_
   exact ⟨rfl,H12.out.2⟩
set_option maxHeartbeats 8000000 in
set_option maxRecDepth 100000 in
theorem rsq_e2 {n : Nat} (h1 : 3 ≤ n) (h2 : n ≤ 64) (h : prm n n = false ∨ (n % 8 ≠ 1 ∧ n % 8 ≠ 7)) (w : World) : Calls Tryz.prog 21 #[.int .i64 (n : Nat)] w (CEr 3 w) := by
 obtain ⟨w0,hw0⟩ : ∃ w0,w0 = w.alloc (.cells #[.int .i64 0, .int .i64 0, .slice none 0 0] 35) := ⟨_,rfl⟩
 have HW : Hid (Below w.heap.size w w0 ∧ RB w.heap.size w0 ∧ RBt w.heap.size w0 ∧ w0.heap.size = w.heap.size + 1) := by
   rw [hw0]; exact ⟨(Below.refl _ _).alloc (Nat.le_refl _) _,RB.new _ _ _ _,RBt.new _ _,by simp⟩
 have g1 : ¬ (n : Int) < 3 := by omega
 have g2 : ¬ (n : Int) > 64 := by omega
 have g3 : ¬ (64 : Int) < (n : Int) := by omega
 obtain ⟨x,hx⟩ : ∃ x,x = n % 8 := ⟨_,rfl⟩
 have hrm : (n : Int).tmod 8 = (x : Int) := by rw [Int.tmod_eq_emod_of_nonneg (by omega),hx]; omega
 have hre : (n : Int) % 8 = (x : Int) := by rw [hx]; omega
 rw [← hx] at h
 have HE : Hid (prm n n = false ∨ (x ≠ 1 ∧ x ≠ 7)) := h
 clear hx h
 by_cases h8 : x = 1
 · have hx1 : ((x : Int) == 1) = true := by rw [beq_iff_eq]; omega
   go_enter Tryz.func21,Tryz.ntmps21
   go_upto_region 4 with fail
   rw [← hw0]
   clear hw0
   have hd1 : decide (64 < n) = false := decide_eq_false (by omega)
   have hd2 : decide ((n : Int) < 3) = false := decide_eq_false (by omega)
   have hd3 : decide ((64 : Int) < (n : Int)) = false := decide_eq_false (by omega)
   try simp only [hd1,hd2,hd3,Bool.or_self]
   clear hd1 hd2 hd3
   go_wp2
   go_loopw [4,5] (fun vb vd wr => ∃ d : Nat,2 ≤ d ∧ d ≤ n ∧ vd = .int .i64 (d : Nat) ∧ vb = .bool (prm n d) ∧ wr = w0) (fun _ vd _ => n - (intOf vd).toNat)
   case atStart => exact ⟨2,by omega,by omega,rfl,rfl,rfl⟩
   case round =>
     obtain ⟨d,hd2,hdn,rfl,rfl,hwr⟩ := hrel
     have hwr := hwr.symm
     subst hwr
     obtain ⟨b,hb⟩ : ∃ b,b = prm n d := ⟨_,rfl⟩
     rw [← hb]
     have HB : Hid (b = prm n d) := hb
     clear hb
     by_cases hlt : d < n
     · have hib : (d : Int) < (n : Int) := by omega
       obtain ⟨r,hr⟩ : ∃ r,r = n % d := ⟨_,rfl⟩
       have hrm2 : (n : Int).tmod (d : Int) = (r : Int) := by rw [Int.tmod_eq_emod_of_nonneg (by omega),hr]; omega
       have hre2 : (n : Int) % (d : Int) = (r : Int) := by rw [hr]; omega
       have hd0 : ¬ (d : Int) = 0 := by omega
       have hd0b : ((d : Int) == 0) = false := by rw [beq_eq_false_iff_ne]; omega
       obtain ⟨c,hc⟩ : ∃ c,c = ((r : Int) != 0) := ⟨_,rfl⟩
       have HP : Hid (prm n (d + 1) = (b && c)) := by
         show (prm n d && (decide (d < 2) || n % d != 0)) = _
         rw [decide_eq_false (show ¬ d < 2 by omega),Bool.false_or, ← hr, ← HB.out,hc]
         congr 1
         by_cases e : r = 0
         · rw [e]; rfl
         · rw [show (r != 0) = true by rw [bne_iff_ne]; exact e,show ((r : Int) != 0) = true by rw [bne_iff_ne]; omega]
       have hc2 : ((r : Int) != 0) = c := hc.symm
       clear hr HB hc
       cases b with
       | true =>
         go_wp2
         go_roundw
         case rel => exact ⟨d + 1,by omega,by omega,by go_num,by rw [HP.out,Bool.true_and],by first | rfl | trivial⟩
         case measure => simp [intOf]; omega
       | false =>
         go_wp2
         go_roundw
         case rel => exact ⟨d + 1,by omega,by omega,by go_num,by rw [HP.out,Bool.false_and],by first | rfl | trivial⟩
         case measure => simp [intOf]; omega
     · have hib : ¬ (d : Int) < (n : Int) := by omega
       have hbe : b = prm n n := by rw [HB.out]; congr 1; omega
       have hbf : b = false := by
         rw [hbe]
         rcases HE.out with e | e
         · exact e
         · omega
       subst hbf
       clear hbe HB
       obtain ⟨⟨x0,c0⟩,⟨x1,c1⟩,⟨x2,c2⟩,f0,f1,f2⟩ := HW.out.2.1
       go_wp2
       obtain ⟨w12,hw12⟩ : ∃ w12,w12 = laid w0 w.heap.size 0 0 (.slice none 0 0) := ⟨_,rfl⟩
       have H12 : Hid (CB w.heap.size 0 0 (.slice none 0 0) w12 ∧ Below w.heap.size w w12) := by
         rw [hw12]; exact ⟨laid_cb HW.out.2.1 _ _ _,laid_below HW.out.1 (Nat.le_refl _) _ _ _⟩
       unfold laid at hw12
       rw [← hw12]
       clear hw12 c0 c1 c2 f0 f1 f2
       obtain ⟨c0,c1,c2⟩ := H12.out.1
       refine bodyPost_ret (v := .tuple #[.agg #[.int .i64 0, .int .i64 0, .slice none 0 0], .int .i64 3]) (by simp [results,Tryz.results21,go_sem,c0,c1,c2]) rfl ?_
       exact ⟨rfl,H12.out.2⟩
 · have hx1 : ((x : Int) == 1) = false := by rw [beq_eq_false_iff_ne]; omega
   by_cases h87 : x = 7
   · have hx7 : ((x : Int) == 7) = true := by rw [beq_iff_eq]; omega
     go_enter Tryz.func21,Tryz.ntmps21
     go_upto_region 4 with fail
     rw [← hw0]
     clear hw0
     have hd1 : decide (64 < n) = false := decide_eq_false (by omega)
     have hd2 : decide ((n : Int) < 3) = false := decide_eq_false (by omega)
     have hd3 : decide ((64 : Int) < (n : Int)) = false := decide_eq_false (by omega)
     try simp only [hd1,hd2,hd3,Bool.or_self]
     clear hd1 hd2 hd3
     go_wp2
     go_loopw [4,5] (fun vb vd wr => ∃ d : Nat,2 ≤ d ∧ d ≤ n ∧ vd = .int .i64 (d : Nat) ∧ vb = .bool (prm n d) ∧ wr = w0) (fun _ vd _ => n - (intOf vd).toNat)
     case atStart => exact ⟨2,by omega,by omega,rfl,rfl,rfl⟩
     case round =>
       obtain ⟨d,hd2,hdn,rfl,rfl,hwr⟩ := hrel
       have hwr := hwr.symm
       subst hwr
       obtain ⟨b,hb⟩ : ∃ b,b = prm n d := ⟨_,rfl⟩
       rw [← hb]
       have HB : Hid (b = prm n d) := hb
       clear hb
       by_cases hlt : d < n
       · have hib : (d : Int) < (n : Int) := by omega
         obtain ⟨r,hr⟩ : ∃ r,r = n % d := ⟨_,rfl⟩
         have hrm2 : (n : Int).tmod (d : Int) = (r : Int) := by rw [Int.tmod_eq_emod_of_nonneg (by omega),hr]; omega
         have hre2 : (n : Int) % (d : Int) = (r : Int) := by rw [hr]; omega
         have hd0 : ¬ (d : Int) = 0 := by omega
         have hd0b : ((d : Int) == 0) = false := by rw [beq_eq_false_iff_ne]; omega
         obtain ⟨c,hc⟩ : ∃ c,c = ((r : Int) != 0) := ⟨_,rfl⟩
         have HP : Hid (prm n (d + 1) = (b && c)) := by
           show (prm n d && (decide (d < 2) || n % d != 0)) = _
           rw [decide_eq_false (show ¬ d < 2 by omega),Bool.false_or, ← hr, ← HB.out,hc]
           congr 1
           by_cases e : r = 0
           · rw [e]; rfl
           · rw [show (r != 0) = true by rw [bne_iff_ne]; exact e,show ((r : Int) != 0) = true by rw [bne_iff_ne]; omega]
         have hc2 : ((r : Int) != 0) = c := hc.symm
         clear hr HB hc
         cases b with
         | true =>
           go_wp2
           go_roundw
           case rel => exact ⟨d + 1,by omega,by omega,by go_num,by rw [HP.out,Bool.true_and],by first | rfl | trivial⟩
           case measure => simp [intOf]; omega
         | false =>
           go_wp2
           go_roundw
           case rel => exact ⟨d + 1,by omega,by omega,by go_num,by rw [HP.out,Bool.false_and],by first | rfl | trivial⟩
           case measure => simp [intOf]; omega
       · have hib : ¬ (d : Int) < (n : Int) := by omega
         have hbe : b = prm n n := by rw [HB.out]; congr 1; omega
         have hbf : b = false := by
           rw [hbe]
           rcases HE.out with e | e
           · exact e
           · omega
         subst hbf
         clear hbe HB
         obtain ⟨⟨x0,c0⟩,⟨x1,c1⟩,⟨x2,c2⟩,f0,f1,f2⟩ := HW.out.2.1
         go_wp2
         obtain ⟨w12,hw12⟩ : ∃ w12,w12 = laid w0 w.heap.size 0 0 (.slice none 0 0) := ⟨_,rfl⟩
         have H12 : Hid (CB w.heap.size 0 0 (.slice none 0 0) w12 ∧ Below w.heap.size w w12) := by
           rw [hw12]; exact ⟨laid_cb HW.out.2.1 _ _ _,laid_below HW.out.1 (Nat.le_refl _) _ _ _⟩
         unfold laid at hw12
         rw [← hw12]
         clear hw12 c0 c1 c2 f0 f1 f2
         obtain ⟨c0,c1,c2⟩ := H12.out.1
         refine bodyPost_ret (v := .tuple #[.agg #[.int .i64 0, .int .i64 0, .slice none 0 0], .int .i64 3]) (by simp [results,Tryz.results21,go_sem,c0,c1,c2]) rfl ?_
         exact ⟨rfl,H12.out.2⟩
   · have hx7 : ((x : Int) == 7) = false := by rw [beq_eq_false_iff_ne]; omega
     go_enter Tryz.func21,Tryz.ntmps21
     go_upto_region 4 with fail
     rw [← hw0]
     clear hw0
     have hd1 : decide (64 < n) = false := decide_eq_false (by omega)
     have hd2 : decide ((n : Int) < 3) = false := decide_eq_false (by omega)
     have hd3 : decide ((64 : Int) < (n : Int)) = false := decide_eq_false (by omega)
     try simp only [hd1,hd2,hd3,Bool.or_self]
     clear hd1 hd2 hd3
     go_wp2
     go_loopw [4,5] (fun vb vd wr => ∃ d : Nat,2 ≤ d ∧ d ≤ n ∧ vd = .int .i64 (d : Nat) ∧ vb = .bool false ∧ wr = w0) (fun _ vd _ => n - (intOf vd).toNat)
     case atStart => exact ⟨2,by omega,by omega,rfl,rfl,rfl⟩
     case round =>
       obtain ⟨d,hd2,hdn,rfl,rfl,hwr⟩ := hrel
       have hwr := hwr.symm
       subst hwr
       by_cases hlt : d < n
       · have hib : (d : Int) < (n : Int) := by omega
         go_wp2
         go_roundw
         case rel => exact ⟨d + 1,by omega,by omega,by go_num,rfl,by first | rfl | trivial⟩
         case measure => simp [intOf]; omega
       · have hib : ¬ (d : Int) < (n : Int) := by omega
         obtain ⟨⟨x0,c0⟩,⟨x1,c1⟩,⟨x2,c2⟩,f0,f1,f2⟩ := HW.out.2.1
         go_wp2
         obtain ⟨w12,hw12⟩ : ∃ w12,w12 = laid w0 w.heap.size 0 0 (.slice none 0 0) := ⟨_,rfl⟩
         have H12 : Hid (CB w.heap.size 0 0 (.slice none 0 0) w12 ∧ Below w.heap.size w w12) := by
           rw [hw12]; exact ⟨laid_cb HW.out.2.1 _ _ _,laid_below HW.out.1 (Nat.le_refl _) _ _ _⟩
         unfold laid at hw12
         rw [← hw12]
         clear hw12 c0 c1 c2 f0 f1 f2
         obtain ⟨c0,c1,c2⟩ := H12.out.1
         refine bodyPost_ret (v := .tuple #[.agg #[.int .i64 0, .int .i64 0, .slice none 0 0], .int .i64 3]) (by simp [results,Tryz.results21,go_sem,c0,c1,c2]) rfl ?_
         exact ⟨rfl,H12.out.2⟩
set_option maxHeartbeats 8000000 in
set_option maxRecDepth 100000 in
theorem rsq_z {n nn : Nat} (h1 : 3 ≤ n) (h2 : n ≤ 64) (hp : prm n n = true) (h8 : n % 8 = 1 ∨ n % 8 = 7) {S qq : Int} {K : Nat → (Nat → Nat → Nat) → Prop} {w : World}
   (hG : ∀ wx zo zc,w.heap.size < wx.heap.size → SlZ zo (n - 1) (fun i => ((sqrow n i : Nat) : Int)) wx → LtB zo wx.heap.size → Calls Tryz.prog 11 #[.int .i64 2, .int .i64 (n : Nat), .slice zo (n - 1) zc] wx fun x w' => ((S ≠ 0 ∧ x = .returned (.tuple #[.slice none 0 0, .int .i64 S])) ∨ (S = 0 ∧ ∃ ao N ca,x = .returned (.tuple #[.slice ao N ca, .int .i64 0]) ∧ ∀ wy,Below w'.heap.size w' wy → Calls Tryz.prog 17 #[.int .i64 2, .int .i64 (n : Nat), .slice ao N ca] wy fun x w'' => ∃ qa na o k cc,x = .returned (.tuple #[.agg #[.int .i64 qa, .int .i64 na, .slice o k cc], .int .i64 0]) ∧ ToldR 0 qq nn wy.heap.size K qa na o k cc w'' ∧ Below wy.heap.size wy w'')) ∧ Below wx.heap.size wx w') :
   Calls Tryz.prog 21 #[.int .i64 (n : Nat)] w fun x w' => ∃ qa na o k cc,x = .returned (.tuple #[.agg #[.int .i64 qa, .int .i64 na, .slice o k cc], .int .i64 S]) ∧ ToldR S qq nn w.heap.size K qa na o k cc w' ∧ Below w.heap.size w w' := by
 obtain ⟨w0,hw0⟩ : ∃ w0,w0 = w.alloc (.cells #[.int .i64 0, .int .i64 0, .slice none 0 0] 35) := ⟨_,rfl⟩
 have HW : Hid (Below w.heap.size w w0 ∧ RB w.heap.size w0 ∧ RBt w.heap.size w0 ∧ w0.heap.size = w.heap.size + 1) := by
   rw [hw0]; exact ⟨(Below.refl _ _).alloc (Nat.le_refl _) _,RB.new _ _ _ _,RBt.new _ _,by simp⟩
 have g1 : ¬ (n : Int) < 3 := by omega
 have g2 : ¬ (n : Int) > 64 := by omega
 have g3 : ¬ (64 : Int) < (n : Int) := by omega
 obtain ⟨x,hx⟩ : ∃ x,x = n % 8 := ⟨_,rfl⟩
 have hrm : (n : Int).tmod 8 = (x : Int) := by rw [Int.tmod_eq_emod_of_nonneg (by omega),hx]; omega
 have hre : (n : Int) % 8 = (x : Int) := by rw [hx]; omega
 rw [← hx] at h8
 have HE : Hid (prm n n = true) := hp
 have HGen : Hid (∀ wx zo zc,w.heap.size < wx.heap.size → SlZ zo (n - 1) (fun i => ((sqrow n i : Nat) : Int)) wx → LtB zo wx.heap.size → Calls Tryz.prog 11 #[.int .i64 2, .int .i64 (n : Nat), .slice zo (n - 1) zc] wx fun x w' => ((S ≠ 0 ∧ x = .returned (.tuple #[.slice none 0 0, .int .i64 S])) ∨ (S = 0 ∧ ∃ ao N ca,x = .returned (.tuple #[.slice ao N ca, .int .i64 0]) ∧ ∀ wy,Below w'.heap.size w' wy → Calls Tryz.prog 17 #[.int .i64 2, .int .i64 (n : Nat), .slice ao N ca] wy fun x w'' => ∃ qa na o k cc,x = .returned (.tuple #[.agg #[.int .i64 qa, .int .i64 na, .slice o k cc], .int .i64 0]) ∧ ToldR 0 qq nn wy.heap.size K qa na o k cc w'' ∧ Below wy.heap.size wy w'')) ∧ Below wx.heap.size wx w') := hG
 clear hx hp hG
 rcases h8 with h8 | h8
 · have hx1 : ((x : Int) == 1) = true := by rw [beq_iff_eq]; omega
   clear h8
   go_enter Tryz.func21,Tryz.ntmps21
   go_upto_region 4 with fail
   rw [← hw0]
   clear hw0
   have hd1 : decide (64 < n) = false := decide_eq_false (by omega)
   have hd2 : decide ((n : Int) < 3) = false := decide_eq_false (by omega)
   have hd3 : decide ((64 : Int) < (n : Int)) = false := decide_eq_false (by omega)
   try simp only [hd1,hd2,hd3,Bool.or_self]
   clear hd1 hd2 hd3
   go_wp2
   go_loopw [4,5] (fun vb vd wr => ∃ d : Nat,2 ≤ d ∧ d ≤ n ∧ vd = .int .i64 (d : Nat) ∧ vb = .bool (prm n d) ∧ wr = w0) (fun _ vd _ => n - (intOf vd).toNat)
   case atStart => exact ⟨2,by omega,by omega,rfl,rfl,rfl⟩
   case round =>
     obtain ⟨d,hd2,hdn,rfl,rfl,hwr⟩ := hrel
     have hwr := hwr.symm
     subst hwr
     obtain ⟨b,hb⟩ : ∃ b,b = prm n d := ⟨_,rfl⟩
     rw [← hb]
     have HB : Hid (b = prm n d) := hb
     clear hb
     by_cases hlt : d < n
     · have hib : (d : Int) < (n : Int) := by omega
       obtain ⟨r,hr⟩ : ∃ r,r = n % d := ⟨_,rfl⟩
       have hrm2 : (n : Int).tmod (d : Int) = (r : Int) := by rw [Int.tmod_eq_emod_of_nonneg (by omega),hr]; omega
       have hre2 : (n : Int) % (d : Int) = (r : Int) := by rw [hr]; omega
       have hd0 : ¬ (d : Int) = 0 := by omega
       have hd0b : ((d : Int) == 0) = false := by rw [beq_eq_false_iff_ne]; omega
       obtain ⟨c,hc⟩ : ∃ c,c = ((r : Int) != 0) := ⟨_,rfl⟩
       have HP : Hid (prm n (d + 1) = (b && c)) := by
         show (prm n d && (decide (d < 2) || n % d != 0)) = _
         rw [decide_eq_false (show ¬ d < 2 by omega),Bool.false_or, ← hr, ← HB.out,hc]
         congr 1
         by_cases e : r = 0
         · rw [e]; rfl
         · rw [show (r != 0) = true by rw [bne_iff_ne]; exact e,show ((r : Int) != 0) = true by rw [bne_iff_ne]; omega]
       have hc2 : ((r : Int) != 0) = c := hc.symm
       clear hr HB hc
       cases b with
       | true =>
         go_wp2
         go_roundw
         case rel => exact ⟨d + 1,by omega,by omega,by go_num,by rw [HP.out,Bool.true_and],by first | rfl | trivial⟩
         case measure => simp [intOf]; omega
       | false =>
         go_wp2
         go_roundw
         case rel => exact ⟨d + 1,by omega,by omega,by go_num,by rw [HP.out,Bool.false_and],by first | rfl | trivial⟩
         case measure => simp [intOf]; omega
     · have hib : ¬ (d : Int) < (n : Int) := by omega
       have hbe : b = prm n n := by rw [HB.out]; congr 1; omega
       have hbt : b = true := hbe.trans HE.out
       subst hbt
       clear hbe HB
       go_wp2
       go_loopw [6,7] (fun vl vi wr => ∃ r : Nat,r + 1 ≤ n ∧ vi = .int .i64 ((r : Int) + 1) ∧ Hid (OwnI w0.heap.size vl (zl r fun i => ((sqrow n i : Nat) : Int)) wr ∧ Below w0.heap.size w0 wr)) (fun _ vi _ => n - (intOf vi).toNat)
       case atStart => exact ⟨0,by omega,rfl,OwnI.nil _ _,Below.refl _ _⟩
       case round =>
         obtain ⟨r,hr,rfl,HI⟩ := hrel
         rename World => wr
         have hsz := HI.out.2.size
         obtain ⟨r1,hr1⟩ : ∃ r1,r1 = r + 1 := ⟨_,rfl⟩
         have hr1i : (r : Int) + 1 = (r1 : Int) := by omega
         rw [hr1i]
         have HR1 : Hid (r1 = r + 1) := hr1
         by_cases hlt : r1 < n
         · have hib : (r1 : Int) < (n : Int) := by omega
           obtain ⟨u,hu⟩ : ∃ u,u = r1 * r1 := ⟨_,rfl⟩
           have hui : (r1 : Int) * (r1 : Int) = (u : Int) := by rw [hu]; simp
           have hub : u ≤ 4096 := by rw [hu]; exact Nat.le_trans (Nat.mul_le_mul (show r1 ≤ 64 by omega) (show r1 ≤ 64 by omega)) (by decide)
           have huw : IntKind.i64.wrap (u : Int) = (u : Int) := wrap_to rfl (by omega)
           obtain ⟨y,hy⟩ : ∃ y,y = u % n := ⟨_,rfl⟩
           have hrm2 : (u : Int).tmod (n : Int) = (y : Int) := by rw [Int.tmod_eq_emod_of_nonneg (by omega),hy]; omega
           have hre2 : (u : Int) % (n : Int) = (y : Int) := by rw [hy]; omega
           have hn0 : ¬ (n : Int) = 0 := by omega
           have hn0b : ((n : Int) == 0) = false := by rw [beq_eq_false_iff_ne]; omega
           have HX : Hid (y = sqrow n r) := by show _ = _; rw [hy,hu,hr1]; rfl
           clear hu hy hr1i
           have hrb : r ≤ 64 := by omega
           clear hr1
           go_wp2_with (first
             | (at_builtin; refine append_int rfl _ _ rfl w0.heap.size _ (zl r fun i => ((sqrow n i : Nat) : Int)) rfl (HI.out.1.alloc _) ⟨_,0,none⟩ 1 (y : Nat) rfl (by simp) (by rw [zl_len]; omega) (by simp; omega) ?_; intro v2 w3 hown3 hgrow3))
           have HN : Hid (OwnI w0.heap.size v2 (zl (r + 1) fun i => ((sqrow n i : Nat) : Int)) w3 ∧ Below w0.heap.size w0 w3) := by
             refine ⟨?_,(HI.out.2.alloc hsz _).grown hgrow3 (by simp; omega) (fun k hk => (HI.out.1.lt k hk).1)⟩
             rw [zl_succ, ← HX.out]; exact hown3
           clear hown3 hgrow3
           go_roundw
           case rel => exact ⟨r + 1,by have := HR1.out; omega,by (have := HR1.out; subst this; first | rfl | go_num),HN.out⟩
           case measure => have := HR1.out; subst this; simp [intOf]; omega
         · have hib : ¬ (r1 : Int) < (n : Int) := by omega
           have hre2 : n - 1 = r := by omega
           obtain ⟨zo,zc,hv,hA⟩ := HI.out.1.argL
           subst hv
           have hZ := HGen.out wr zo zc (by have := HW.out.2.2.2; omega) (by rw [hre2]; exact hA.sl) hA.lt
           rw [hre2] at hZ
           have HC : Hid (Calls Tryz.prog 11 #[.int .i64 2, .int .i64 (n : Nat), .slice zo r zc] wr fun x w' => ((S ≠ 0 ∧ x = .returned (.tuple #[.slice none 0 0, .int .i64 S])) ∨ (S = 0 ∧ ∃ ao N ca,x = .returned (.tuple #[.slice ao N ca, .int .i64 0]) ∧ ∀ wy,Below w'.heap.size w' wy → Calls Tryz.prog 17 #[.int .i64 2, .int .i64 (n : Nat), .slice ao N ca] wy fun x w'' => ∃ qa na o k cc,x = .returned (.tuple #[.agg #[.int .i64 qa, .int .i64 na, .slice o k cc], .int .i64 0]) ∧ ToldR 0 qq nn wy.heap.size K qa na o k cc w'' ∧ Below wy.heap.size wy w'')) ∧ Below wr.heap.size wr w') := hZ
           have HB : Hid (Below w0.heap.size w0 wr) := HI.out.2
           clear hZ hA hr1i hr1 hre2 HI
           go_wp2_with fail
           refine HC.out.mono ?_
           rintro x9 w3 ⟨hres,hb3⟩
           have H3 : Hid (Below w.heap.size w w3 ∧ RB w.heap.size w3 ∧ RBt w.heap.size w3 ∧ w.heap.size < w3.heap.size) := by
             have hbb := bel_up' HB.out hb3
             exact ⟨bel_up' HW.out.1 hbb,HW.out.2.1.keep hbb,HW.out.2.2.1.keep hbb,by have := hbb.size; have := HW.out.2.2.2; omega⟩
           clear hb3 HC
           rcases hres with ⟨hS,rfl⟩ | ⟨hS,ao,N,ca,rfl,hOf⟩
           · have hne : (S != 0) = true := by rw [bne_iff_ne]; exact hS
             have HS : Hid (S ≠ 0) := hS
             clear hS
             obtain ⟨⟨x0,c0⟩,⟨x1,c1⟩,⟨x2,c2⟩,f0,f1,f2⟩ := H3.out.2.1
             go_wp2
             obtain ⟨w12,hw12⟩ : ∃ w12,w12 = laid w3 w.heap.size 0 0 (.slice none 0 0) := ⟨_,rfl⟩
             have H12 : Hid (CB w.heap.size 0 0 (.slice none 0 0) w12 ∧ Below w.heap.size w w12) := by
               rw [hw12]; exact ⟨laid_cb H3.out.2.1 _ _ _,laid_below H3.out.1 (Nat.le_refl _) _ _ _⟩
             unfold laid at hw12
             rw [← hw12]
             clear hw12 c0 c1 c2 f0 f1 f2
             obtain ⟨c0,c1,c2⟩ := H12.out.1
             refine bodyPost_ret (v := .tuple #[.agg #[.int .i64 0, .int .i64 0, .slice none 0 0], .int .i64 S]) (by simp [results,Tryz.results21,go_sem,c0,c1,c2]) rfl ?_
             exact ⟨0,0,none,0,0,rfl,fun e => absurd e HS.out,H12.out.2⟩
           · have HOf : Hid (Calls Tryz.prog 17 #[.int .i64 2, .int .i64 (n : Nat), .slice ao N ca] w3 fun x w'' => ∃ qa na o k cc,x = .returned (.tuple #[.agg #[.int .i64 qa, .int .i64 na, .slice o k cc], .int .i64 0]) ∧ ToldR 0 qq nn w3.heap.size K qa na o k cc w'' ∧ Below w3.heap.size w3 w'') := hOf w3 (Below.refl _ _)
             have HS : Hid (S = 0) := hS
             clear hOf hS
             go_wp2_with fail
             refine HOf.out.mono ?_
             rintro x9 w4 ⟨qa,na,o,k,cc,rfl,hT,hb4⟩
             have H4 : Hid (ToldR 0 qq nn w3.heap.size K qa na o k cc w4 ∧ Below w.heap.size w w4 ∧ RB w.heap.size w4 ∧ RBt w.heap.size w4 ∧ w.heap.size ≤ w3.heap.size) := ⟨hT,bel_up' H3.out.1 hb4,H3.out.2.1.keep hb4,H3.out.2.2.1.keep hb4,Nat.le_of_lt H3.out.2.2.2⟩
             clear hT hb4 HOf
             obtain ⟨⟨x0,c0⟩,⟨x1,c1⟩,⟨x2,c2⟩,f0,f1,f2⟩ := H4.out.2.2.1
             go_wp2
             obtain ⟨w12,hw12⟩ : ∃ w12,w12 = laid w4 w.heap.size qa na (.slice o k cc) := ⟨_,rfl⟩
             have H12 : Hid (CB w.heap.size qa na (.slice o k cc) w12 ∧ ToldR 0 qq nn w.heap.size K qa na o k cc w12 ∧ Below w.heap.size w w12) := by
               rw [hw12]
               refine ⟨laid_cb H4.out.2.2.1 _ _ _,fun e => ?_,laid_below H4.out.2.1 (Nat.le_refl _) _ _ _⟩
               obtain ⟨h1,h2,h3,R,h4,h5⟩ := (H4.out.1.laid H4.out.2.2.2.1 qa na (.slice o k cc)) e
               exact ⟨h1,h2,h3,R,h4.mono H4.out.2.2.2.2,h5⟩
             unfold laid at hw12
             rw [← hw12]
             clear hw12 c0 c1 c2 f0 f1 f2
             obtain ⟨c0,c1,c2⟩ := H12.out.1
             refine bodyPost_ret (v := .tuple #[.agg #[.int .i64 qa, .int .i64 na, .slice o k cc], .int .i64 0]) (by simp [results,Tryz.results21,go_sem,c0,c1,c2]) rfl ?_
             rw [HS.out]
             exact ⟨_,_,_,_,_,rfl,H12.out.2⟩
 · have hx1 : ((x : Int) == 1) = false := by rw [beq_eq_false_iff_ne]; omega
   have hx7 : ((x : Int) == 7) = true := by rw [beq_iff_eq]; omega
   clear h8
   go_enter Tryz.func21,Tryz.ntmps21
   go_upto_region 4 with fail
   rw [← hw0]
   clear hw0
   have hd1 : decide (64 < n) = false := decide_eq_false (by omega)
   have hd2 : decide ((n : Int) < 3) = false := decide_eq_false (by omega)
   have hd3 : decide ((64 : Int) < (n : Int)) = false := decide_eq_false (by omega)
   try simp only [hd1,hd2,hd3,Bool.or_self]
   clear hd1 hd2 hd3
   go_wp2
   go_loopw [4,5] (fun vb vd wr => ∃ d : Nat,2 ≤ d ∧ d ≤ n ∧ vd = .int .i64 (d : Nat) ∧ vb = .bool (prm n d) ∧ wr = w0) (fun _ vd _ => n - (intOf vd).toNat)
   case atStart => exact ⟨2,by omega,by omega,rfl,rfl,rfl⟩
   case round =>
     obtain ⟨d,hd2,hdn,rfl,rfl,hwr⟩ := hrel
     have hwr := hwr.symm
     subst hwr
     obtain ⟨b,hb⟩ : ∃ b,b = prm n d := ⟨_,rfl⟩
     rw [← hb]
     have HB : Hid (b = prm n d) := hb
     clear hb
     by_cases hlt : d < n
     · have hib : (d : Int) < (n : Int) := by omega
       obtain ⟨r,hr⟩ : ∃ r,r = n % d := ⟨_,rfl⟩
       have hrm2 : (n : Int).tmod (d : Int) = (r : Int) := by rw [Int.tmod_eq_emod_of_nonneg (by omega),hr]; omega
       have hre2 : (n : Int) % (d : Int) = (r : Int) := by rw [hr]; omega
       have hd0 : ¬ (d : Int) = 0 := by omega
       have hd0b : ((d : Int) == 0) = false := by rw [beq_eq_false_iff_ne]; omega
       obtain ⟨c,hc⟩ : ∃ c,c = ((r : Int) != 0) := ⟨_,rfl⟩
       have HP : Hid (prm n (d + 1) = (b && c)) := by
         show (prm n d && (decide (d < 2) || n % d != 0)) = _
         rw [decide_eq_false (show ¬ d < 2 by omega),Bool.false_or, ← hr, ← HB.out,hc]
         congr 1
         by_cases e : r = 0
         · rw [e]; rfl
         · rw [show (r != 0) = true by rw [bne_iff_ne]; exact e,show ((r : Int) != 0) = true by rw [bne_iff_ne]; omega]
       have hc2 : ((r : Int) != 0) = c := hc.symm
       clear hr HB hc
       cases b with
       | true =>
         go_wp2
         go_roundw
         case rel => exact ⟨d + 1,by omega,by omega,by go_num,by rw [HP.out,Bool.true_and],by first | rfl | trivial⟩
         case measure => simp [intOf]; omega
       | false =>
         go_wp2
         go_roundw
         case rel => exact ⟨d + 1,by omega,by omega,by go_num,by rw [HP.out,Bool.false_and],by first | rfl | trivial⟩
         case measure => simp [intOf]; omega
     · have hib : ¬ (d : Int) < (n : Int) := by omega
       have hbe : b = prm n n := by rw [HB.out]; congr 1; omega
       have hbt : b = true := hbe.trans HE.out
       subst hbt
       clear hbe HB
       go_wp2
       go_loopw [6,7] (fun vl vi wr => ∃ r : Nat,r + 1 ≤ n ∧ vi = .int .i64 ((r : Int) + 1) ∧ Hid (OwnI w0.heap.size vl (zl r fun i => ((sqrow n i : Nat) : Int)) wr ∧ Below w0.heap.size w0 wr)) (fun _ vi _ => n - (intOf vi).toNat)
       case atStart => exact ⟨0,by omega,rfl,OwnI.nil _ _,Below.refl _ _⟩
       case round =>
         obtain ⟨r,hr,rfl,HI⟩ := hrel
         rename World => wr
         have hsz := HI.out.2.size
         obtain ⟨r1,hr1⟩ : ∃ r1,r1 = r + 1 := ⟨_,rfl⟩
         have hr1i : (r : Int) + 1 = (r1 : Int) := by omega
         rw [hr1i]
         have HR1 : Hid (r1 = r + 1) := hr1
         by_cases hlt : r1 < n
         · have hib : (r1 : Int) < (n : Int) := by omega
           obtain ⟨u,hu⟩ : ∃ u,u = r1 * r1 := ⟨_,rfl⟩
           have hui : (r1 : Int) * (r1 : Int) = (u : Int) := by rw [hu]; simp
           have hub : u ≤ 4096 := by rw [hu]; exact Nat.le_trans (Nat.mul_le_mul (show r1 ≤ 64 by omega) (show r1 ≤ 64 by omega)) (by decide)
           have huw : IntKind.i64.wrap (u : Int) = (u : Int) := wrap_to rfl (by omega)
           obtain ⟨y,hy⟩ : ∃ y,y = u % n := ⟨_,rfl⟩
           have hrm2 : (u : Int).tmod (n : Int) = (y : Int) := by rw [Int.tmod_eq_emod_of_nonneg (by omega),hy]; omega
           have hre2 : (u : Int) % (n : Int) = (y : Int) := by rw [hy]; omega
           have hn0 : ¬ (n : Int) = 0 := by omega
           have hn0b : ((n : Int) == 0) = false := by rw [beq_eq_false_iff_ne]; omega
           have HX : Hid (y = sqrow n r) := by show _ = _; rw [hy,hu,hr1]; rfl
           clear hu hy hr1i
           have hrb : r ≤ 64 := by omega
           clear hr1
           go_wp2_with (first
             | (at_builtin; refine append_int rfl _ _ rfl w0.heap.size _ (zl r fun i => ((sqrow n i : Nat) : Int)) rfl (HI.out.1.alloc _) ⟨_,0,none⟩ 1 (y : Nat) rfl (by simp) (by rw [zl_len]; omega) (by simp; omega) ?_; intro v2 w3 hown3 hgrow3))
           have HN : Hid (OwnI w0.heap.size v2 (zl (r + 1) fun i => ((sqrow n i : Nat) : Int)) w3 ∧ Below w0.heap.size w0 w3) := by
             refine ⟨?_,(HI.out.2.alloc hsz _).grown hgrow3 (by simp; omega) (fun k hk => (HI.out.1.lt k hk).1)⟩
             rw [zl_succ, ← HX.out]; exact hown3
           clear hown3 hgrow3
           go_roundw
           case rel => exact ⟨r + 1,by have := HR1.out; omega,by (have := HR1.out; subst this; first | rfl | go_num),HN.out⟩
           case measure => have := HR1.out; subst this; simp [intOf]; omega
         · have hib : ¬ (r1 : Int) < (n : Int) := by omega
           have hre2 : n - 1 = r := by omega
           obtain ⟨zo,zc,hv,hA⟩ := HI.out.1.argL
           subst hv
           have hZ := HGen.out wr zo zc (by have := HW.out.2.2.2; omega) (by rw [hre2]; exact hA.sl) hA.lt
           rw [hre2] at hZ
           have HC : Hid (Calls Tryz.prog 11 #[.int .i64 2, .int .i64 (n : Nat), .slice zo r zc] wr fun x w' => ((S ≠ 0 ∧ x = .returned (.tuple #[.slice none 0 0, .int .i64 S])) ∨ (S = 0 ∧ ∃ ao N ca,x = .returned (.tuple #[.slice ao N ca, .int .i64 0]) ∧ ∀ wy,Below w'.heap.size w' wy → Calls Tryz.prog 17 #[.int .i64 2, .int .i64 (n : Nat), .slice ao N ca] wy fun x w'' => ∃ qa na o k cc,x = .returned (.tuple #[.agg #[.int .i64 qa, .int .i64 na, .slice o k cc], .int .i64 0]) ∧ ToldR 0 qq nn wy.heap.size K qa na o k cc w'' ∧ Below wy.heap.size wy w'')) ∧ Below wr.heap.size wr w') := hZ
           have HB : Hid (Below w0.heap.size w0 wr) := HI.out.2
           clear hZ hA hr1i hr1 hre2 HI
           go_wp2_with fail
           refine HC.out.mono ?_
           rintro x9 w3 ⟨hres,hb3⟩
           have H3 : Hid (Below w.heap.size w w3 ∧ RB w.heap.size w3 ∧ RBt w.heap.size w3 ∧ w.heap.size < w3.heap.size) := by
             have hbb := bel_up' HB.out hb3
             exact ⟨bel_up' HW.out.1 hbb,HW.out.2.1.keep hbb,HW.out.2.2.1.keep hbb,by have := hbb.size; have := HW.out.2.2.2; omega⟩
           clear hb3 HC
           rcases hres with ⟨hS,rfl⟩ | ⟨hS,ao,N,ca,rfl,hOf⟩
           · have hne : (S != 0) = true := by rw [bne_iff_ne]; exact hS
             have HS : Hid (S ≠ 0) := hS
             clear hS
             obtain ⟨⟨x0,c0⟩,⟨x1,c1⟩,⟨x2,c2⟩,f0,f1,f2⟩ := H3.out.2.1
             go_wp2
             obtain ⟨w12,hw12⟩ : ∃ w12,w12 = laid w3 w.heap.size 0 0 (.slice none 0 0) := ⟨_,rfl⟩
             have H12 : Hid (CB w.heap.size 0 0 (.slice none 0 0) w12 ∧ Below w.heap.size w w12) := by
               rw [hw12]; exact ⟨laid_cb H3.out.2.1 _ _ _,laid_below H3.out.1 (Nat.le_refl _) _ _ _⟩
             unfold laid at hw12
             rw [← hw12]
             clear hw12 c0 c1 c2 f0 f1 f2
             obtain ⟨c0,c1,c2⟩ := H12.out.1
             refine bodyPost_ret (v := .tuple #[.agg #[.int .i64 0, .int .i64 0, .slice none 0 0], .int .i64 S]) (by simp [results,Tryz.results21,go_sem,c0,c1,c2]) rfl ?_
             exact ⟨0,0,none,0,0,rfl,fun e => absurd e HS.out,H12.out.2⟩
           · have HOf : Hid (Calls Tryz.prog 17 #[.int .i64 2, .int .i64 (n : Nat), .slice ao N ca] w3 fun x w'' => ∃ qa na o k cc,x = .returned (.tuple #[.agg #[.int .i64 qa, .int .i64 na, .slice o k cc], .int .i64 0]) ∧ ToldR 0 qq nn w3.heap.size K qa na o k cc w'' ∧ Below w3.heap.size w3 w'') := hOf w3 (Below.refl _ _)
             have HS : Hid (S = 0) := hS
             clear hOf hS
             go_wp2_with fail
             refine HOf.out.mono ?_
             rintro x9 w4 ⟨qa,na,o,k,cc,rfl,hT,hb4⟩
             have H4 : Hid (ToldR 0 qq nn w3.heap.size K qa na o k cc w4 ∧ Below w.heap.size w w4 ∧ RB w.heap.size w4 ∧ RBt w.heap.size w4 ∧ w.heap.size ≤ w3.heap.size) := ⟨hT,bel_up' H3.out.1 hb4,H3.out.2.1.keep hb4,H3.out.2.2.1.keep hb4,Nat.le_of_lt H3.out.2.2.2⟩
             clear hT hb4 HOf
             obtain ⟨⟨x0,c0⟩,⟨x1,c1⟩,⟨x2,c2⟩,f0,f1,f2⟩ := H4.out.2.2.1
             go_wp2
             obtain ⟨w12,hw12⟩ : ∃ w12,w12 = laid w4 w.heap.size qa na (.slice o k cc) := ⟨_,rfl⟩
             have H12 : Hid (CB w.heap.size qa na (.slice o k cc) w12 ∧ ToldR 0 qq nn w.heap.size K qa na o k cc w12 ∧ Below w.heap.size w w12) := by
               rw [hw12]
               refine ⟨laid_cb H4.out.2.2.1 _ _ _,fun e => ?_,laid_below H4.out.2.1 (Nat.le_refl _) _ _ _⟩
               obtain ⟨h1,h2,h3,R,h4,h5⟩ := (H4.out.1.laid H4.out.2.2.2.1 qa na (.slice o k cc)) e
               exact ⟨h1,h2,h3,R,h4.mono H4.out.2.2.2.2,h5⟩
             unfold laid at hw12
             rw [← hw12]
             clear hw12 c0 c1 c2 f0 f1 f2
             obtain ⟨c0,c1,c2⟩ := H12.out.1
             refine bodyPost_ret (v := .tuple #[.agg #[.int .i64 qa, .int .i64 na, .slice o k cc], .int .i64 0]) (by simp [results,Tryz.results21,go_sem,c0,c1,c2]) rfl ?_
             rw [HS.out]
             exact ⟨_,_,_,_,_,rfl,H12.out.2⟩
end Go.Proofs.YtppggchhkckobaaGreat
