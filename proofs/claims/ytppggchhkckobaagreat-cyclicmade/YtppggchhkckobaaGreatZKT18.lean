/- Texts of ours, one behind the other: KT18 KT19 KT20 S74 KT21. -/
import Derived.Test.YtppggchhkckobaaGreatZKT8
import Derived.Test.YtppggchhkckobaaGreatZR10
import Derived.Test.YtppggchhkckobaaGreatZW13
import Derived.Test.YtppggchhkckobaaGreatZS68
import Derived.Test.YtppggchhkckobaaGreatZR5
import Derived.Test.YtppggchhkckobaaGreatZL1
namespace Go.Proofs.YtppggchhkckobaaGreat
open Go.RowKit Go.Sort
set_option maxHeartbeats 2000000 in
set_option maxRecDepth 100000 in
theorem rbound_err {q n e : Int} {zo : Option Addr} {m zc : Nat} {v : Value} {w : World} (h0 : e ≠ 0)
   (hC : Calls Tryz.prog 43 #[.int .i64 q, .int .i64 n, .slice zo m zc] w fun x w' => x = .returned (.tuple #[v, .int .i64 e]) ∧ Below w.heap.size w w') :
   Calls Tryz.prog 14 #[.int .i64 q, .int .i64 n, .slice zo m zc] w fun x w' => x = .returned (.tuple #[.int .i64 0, .int .i64 e]) ∧ Below w.heap.size w w' := by
 have HC : Hid (Calls Tryz.prog 43 #[.int .i64 q, .int .i64 n, .slice zo m zc] w fun x w' => x = .returned (.tuple #[v, .int .i64 e]) ∧ Below w.heap.size w w') := hC
 clear hC
 go_enter Tryz.func14,Tryz.ntmps14
 go_wp2_with fail
 refine HC.out.mono ?_
 rintro x w1 ⟨rfl,hb⟩
 have HB : Hid (Below w.heap.size w w1) := hb
 have hne : (e != 0) = true := by rw [bne_iff_ne]; exact h0
 clear hb
 go_wp2
 go_ret2
 exact ⟨rfl,HB.out⟩
set_option maxHeartbeats 8000000 in
set_option maxRecDepth 100000 in
theorem rbound_ok {q n m zc : Nat} {zo : Option Addr} {L : List Nat} {l : List Int} {w : World} (hn1 : 1 ≤ n) (hn : n ≤ 64) (hlL : ∀ x : Nat, x < n → decide ((x : Int) ∈ l) = L.contains x)
   (hC : Calls Tryz.prog 43 #[.int .i64 (q : Nat), .int .i64 (n : Nat), .slice zo m zc] w fun x w' => ∃ v,x = .returned (.tuple #[v, .int .i64 0]) ∧ (∀ wx,Below w'.heap.size w' wx → SliceI v l wx) ∧ Below w.heap.size w w') :
   Calls Tryz.prog 14 #[.int .i64 (q : Nat), .int .i64 (n : Nat), .slice zo m zc] w fun x w' => x = .returned (.tuple #[.int .i64 (bnr n L + 1 : Nat), .int .i64 0]) ∧ Below w.heap.size w w' := by
 have HC : Hid (Calls Tryz.prog 43 #[.int .i64 (q : Nat), .int .i64 (n : Nat), .slice zo m zc] w fun x w' => ∃ v,x = .returned (.tuple #[v, .int .i64 0]) ∧ (∀ wx,Below w'.heap.size w' wx → SliceI v l wx) ∧ Below w.heap.size w w') := hC
 have HL : Hid (∀ x : Nat,x < n → decide ((x : Int) ∈ l) = L.contains x) := hlL
 clear hC hlL
 obtain ⟨F,hF⟩ : ∃ F : Nat → Nat,F = fun s => if Nat.gcd (s + 1) n = 1 then iar n (s + 1) (fun x => L.contains x) else 0 := ⟨_,rfl⟩
 have HF : Hid ((F = fun s => if Nat.gcd (s + 1) n = 1 then iar n (s + 1) (fun x => L.contains x) else 0) ∧ bnr n L = mxn F n) := ⟨hF,by rw [hF]; rfl⟩
 have HFn : Hid (∀ f,F f ≤ n) := fun f => by
   rw [hF]
   show (if _ then _ else _) ≤ n
   split
   · exact iar_le _ _ _
   · omega
 clear hF
 go_enter Tryz.func14,Tryz.ntmps14
 go_wp2_with fail
 refine HC.out.mono ?_
 rintro x w1 ⟨v,rfl,hsl,hb1⟩
 have H1 : Hid ((∀ wx,Below w1.heap.size w1 wx → SliceI v l wx) ∧ Below w.heap.size w w1) := ⟨hsl,hb1⟩
 clear hsl hb1 HC
 go_wp2
 go_loopw [10,11] (fun vm vs wr => ∃ s : Nat,s ≤ n ∧ vs = .int .i64 ((s : Int) + 1) ∧ vm = .int .i64 (mxn F s : Nat) ∧ Hid (Below w1.heap.size w1 wr)) (fun _ vs _ => n + 1 - (intOf vs).toNat)
 case atStart => exact ⟨0,by omega,rfl,rfl,Below.refl _ _⟩
 case round =>
   obtain ⟨s,hs,rfl,rfl,HW⟩ := hrel
   rename World => wr
   obtain ⟨m0,hm0⟩ : ∃ m0,m0 = mxn F s := ⟨_,rfl⟩
   have hm0n : m0 ≤ 64 := by rw [hm0]; have := mxn_le (f := F) (B := n) s (fun i _ => HFn.out i); omega
   rw [← hm0]
   have HM : Hid (m0 = mxn F s) := hm0
   clear hm0
   obtain ⟨s1,hs1⟩ : ∃ s1,s1 = s + 1 := ⟨_,rfl⟩
   have hs1i : (s : Int) + 1 = (s1 : Int) := by omega
   rw [hs1i]
   have HS : Hid (s1 = s + 1) := hs1
   by_cases hlt : s < n
   · have hib : (s1 : Int) ≤ (n : Int) := by omega
     have hb1 : 1 ≤ s1 ∧ s1 ≤ 64 := by omega
     clear hs1i hs1
     obtain ⟨H,hH⟩ : ∃ H : Nat → Nat,H = fun f => rrun (fun i => L.contains ((f + i * s1) % n)) n := ⟨_,rfl⟩
     have HH : Hid ((H = fun f => rrun (fun i => L.contains ((f + i * s1) % n)) n) ∧ iar n s1 (fun x => L.contains x) = mxn H n) := ⟨hH,by rw [hH]; rfl⟩
     have HHn : Hid (∀ f,H f ≤ n) := fun f => by rw [hH]; exact rrun_le _ _
     clear hH
     obtain ⟨gd,hgd⟩ : ∃ gd,gd = Nat.gcd s1 n := ⟨_,rfl⟩
     have HG : Hid (gd = Nat.gcd s1 n ∧ ∀ wx : World,Calls Tryz.prog 52 #[.int .i64 (s1 : Nat), .int .i64 (n : Nat)] wx fun e w' => e = .returned (.int .i64 (gd : Nat)) ∧ w' = wx) := ⟨hgd,fun wx => by rw [hgd]; exact common_any hb1.1 hn1 (by omega) (by omega) wx⟩
     clear hgd
     go_wp2
     go_loopw [10,12] (fun vm vf wx => ∃ f m1 : Nat,f ≤ n ∧ m1 ≤ 64 ∧ (gd ≠ 1 → f = 0) ∧ vf = .int .i64 (f : Nat) ∧ vm = .int .i64 (m1 : Nat) ∧ Hid (m1 = max m0 (mxn H f) ∧ Below w1.heap.size w1 wx)) (fun _ vf _ => n - (intOf vf).toNat)
     case atStart => exact ⟨0,m0,by omega,hm0n,fun _ => rfl,rfl,rfl,by show m0 = max m0 0; omega,HW.out⟩
     case round =>
       obtain ⟨f,m1,hf,hm1,hgf,rfl,rfl,HI⟩ := hrel
       rename World => wx
       by_cases hfn : f < n
       · have hfb : (f : Int) < (n : Int) := by omega
         by_cases h1 : gd = 1
         · have h1b : ((gd : Int) == 1) = true := by rw [beq_iff_eq]; omega
           go_wp2_with fail
           refine (HG.out.2 wx).mono ?_
           rintro e w4 ⟨rfl,hw4⟩
           have hw4 := hw4.symm
           subst hw4
           go_wp2
           go_loopw [13] (fun vr wy => ∃ r : Nat,r ≤ n ∧ vr = .int .i64 (r : Nat) ∧ Hid ((∀ i,i < r → L.contains ((f + i * s1) % n) = true) ∧ Below w1.heap.size w1 wy)) (fun vr _ => n - (intOf vr).toNat)
           case atStart => exact ⟨0,by omega,rfl,fun i hi => absurd hi (by omega),HI.out.2⟩
           case round =>
             obtain ⟨r,hr,rfl,HJ⟩ := hrel
             rename World => wy
             by_cases hrn : r < n
             · have hrb : (r : Int) < (n : Int) := by omega
               obtain ⟨t,ht⟩ : ∃ t,t = r * s1 := ⟨_,rfl⟩
               have hti : (r : Int) * (s1 : Int) = (t : Int) := by rw [ht]; simp
               have htb : t ≤ 4096 := by rw [ht]; exact Nat.le_trans (Nat.mul_le_mul (show r ≤ 64 by omega) hb1.2) (by decide)
               have htw : IntKind.i64.wrap (t : Int) = (t : Int) := wrap_to rfl (by omega)
               obtain ⟨u,hu⟩ : ∃ u,u = f + t := ⟨_,rfl⟩
               have hui : (f : Int) + (t : Int) = (u : Int) := by omega
               have huw : IntKind.i64.wrap (u : Int) = (u : Int) := wrap_to rfl (by omega)
               obtain ⟨x,hx⟩ : ∃ x,x = u % n := ⟨_,rfl⟩
               have hxn : x < n := by rw [hx]; exact Nat.mod_lt _ (by omega)
               have hrm : (u : Int).tmod (n : Int) = (x : Int) := by rw [Int.tmod_eq_emod_of_nonneg (by omega),hx]; omega
               have hre : (u : Int) % (n : Int) = (x : Int) := by rw [hx]; omega
               have hn0 : ¬ (n : Int) = 0 := by omega
               have hn0b : ((n : Int) == 0) = false := by rw [beq_eq_false_iff_ne]; omega
               have HX : Hid (x = (f + r * s1) % n) := by show _ = _; rw [hx,hu,ht]
               clear ht hu hx
               have hin := in_any (x : Int) (H1.out.1 wy HJ.out.2)
               rw [HL.out x hxn] at hin
               cases hp : L.contains x with
               | true =>
                 rw [hp] at hin
                 have HIn : Hid (Calls Tryz.prog 53 #[.int .i64 (x : Int),v] wy fun e w' => e = .returned (.bool true) ∧ ∃ n,w' = wy.drewN n) := hin
                 have HP : Hid (L.contains ((f + r * s1) % n) = true) := by rw [← HX.out]; exact hp
                 clear hp hin
                 go_wp2_with fail
                 refine HIn.out.mono ?_
                 rintro e w6 ⟨rfl,k6,hw6⟩
                 have H6 : Hid (Below w1.heap.size w1 w6) := by rw [hw6]; exact bel_drN HJ.out.2
                 clear hw6
                 go_wp2
                 go_roundw
                 case rel => exact ⟨r + 1,by omega,by go_num,fun i hi => (by
                   by_cases c : i = r
                   · rw [c]; exact HP.out
                   · exact HJ.out.1 i (by omega)),H6.out⟩
                 case measure => simp [intOf]; omega
               | false =>
                 rw [hp] at hin
                 have HIn : Hid (Calls Tryz.prog 53 #[.int .i64 (x : Int),v] wy fun e w' => e = .returned (.bool false) ∧ ∃ n,w' = wy.drewN n) := hin
                 have HP : Hid (H f = r) := by
                   show _ = _
                   rw [HH.out.1]
                   exact rrun_is (fun i hi => HJ.out.1 i hi) n hr (Or.inr (by show L.contains ((f + r * s1) % n) = false; rw [← HX.out]; exact hp))
                 clear hp hin
                 go_wp2_with fail
                 refine HIn.out.mono ?_
                 rintro e w6 ⟨rfl,k6,hw6⟩
                 have H6 : Hid (Below w1.heap.size w1 w6) := by rw [hw6]; exact bel_drN HJ.out.2
                 clear hw6
                 have HMx : Hid (max m1 r = max m0 (mxn H (f + 1))) := by
                   show _ = max m0 (max (mxn H f) (H f))
                   have h1 := HI.out.1
                   have h2 := HP.out
                   omega
                 by_cases hgt : m1 < r
                 · have hg1 : (r : Int) > (m1 : Int) := by omega
                   have hg2 : (m1 : Int) < (r : Int) := by omega
                   clear HP
                   go_wp2
                   go_roundw
                   case rel => exact ⟨f + 1,r,by omega,by omega,fun c => absurd h1 c,by go_num,rfl,by have := HMx.out; omega,H6.out⟩
                   case measure => simp [intOf]; omega
                 · have hg1 : ¬ (r : Int) > (m1 : Int) := by omega
                   have hg2 : ¬ (m1 : Int) < (r : Int) := by omega
                   clear HP
                   go_wp2
                   go_roundw
                   case rel => exact ⟨f + 1,m1,by omega,by omega,fun c => absurd h1 c,by go_num,rfl,by have := HMx.out; omega,H6.out⟩
                   case measure => simp [intOf]; omega
             · have hrb : ¬ (r : Int) < (n : Int) := by omega
               have HP : Hid (H f = r) := by
                 show _ = _
                 rw [HH.out.1]
                 exact rrun_is (fun i hi => HJ.out.1 i hi) n hr (Or.inl (by omega))
               have HMx : Hid (max m1 r = max m0 (mxn H (f + 1))) := by
                 show _ = max m0 (max (mxn H f) (H f))
                 have h1 := HI.out.1
                 have h2 := HP.out
                 omega
               by_cases hgt : m1 < r
               · have hg1 : (r : Int) > (m1 : Int) := by omega
                 have hg2 : (m1 : Int) < (r : Int) := by omega
                 clear HP
                 go_wp2
                 go_roundw
                 case rel => exact ⟨f + 1,r,by omega,by omega,fun c => absurd h1 c,by go_num,rfl,by have := HMx.out; omega,HJ.out.2⟩
                 case measure => simp [intOf]; omega
               · have hg1 : ¬ (r : Int) > (m1 : Int) := by omega
                 have hg2 : ¬ (m1 : Int) < (r : Int) := by omega
                 clear HP
                 go_wp2
                 go_roundw
                 case rel => exact ⟨f + 1,m1,by omega,by omega,fun c => absurd h1 c,by go_num,rfl,by have := HMx.out; omega,HJ.out.2⟩
                 case measure => simp [intOf]; omega
         · have h1b : ((gd : Int) == 1) = false := by rw [beq_eq_false_iff_ne]; omega
           have HE : Hid (m1 = mxn F (s + 1)) := by
             show _ = max (mxn F s) (F s)
             have e : F s = 0 := by
               rw [HF.out.1]
               show (if _ then _ else _) = _
               rw [if_neg (by rw [← HS.out, ← HG.out.1]; exact h1)]
             rw [HI.out.1, ← HM.out,e,hgf h1]; rfl
           go_wp2_with fail
           refine (HG.out.2 wx).mono ?_
           rintro e w4 ⟨rfl,hw4⟩
           have hw4 := hw4.symm
           subst hw4
           go_wp2
           go_roundw
           case rel => exact ⟨s + 1,by omega,by (have := HS.out; subst this; first | rfl | go_num),by rw [← HE.out],HI.out.2⟩
           case measure => have := HS.out; subst this; simp [intOf]; omega
       · have hfb : ¬ (f : Int) < (n : Int) := by omega
         have hfe : f = n := by omega
         have HE : Hid (m1 = mxn F (s + 1)) := by
           show _ = max (mxn F s) (F s)
           have h1 : gd = 1 := Classical.byContradiction fun c => by have := hgf c; omega
           have e : F s = mxn H n := by
             rw [HF.out.1, ← HH.out.2]
             show (if _ then _ else _) = _
             rw [if_pos (by rw [← HS.out, ← HG.out.1]; exact h1),HS.out]
           rw [HI.out.1, ← HM.out,e,hfe]
         clear hfe
         go_wp2
         go_roundw
         case rel => exact ⟨s + 1,by omega,by (have := HS.out; subst this; first | rfl | go_num),by rw [← HE.out],HI.out.2⟩
         case measure => have := HS.out; subst this; simp [intOf]; omega
   · have hib : ¬ (s1 : Int) ≤ (n : Int) := by omega
     have hfn : s = n := by omega
     have HE : Hid (bnr n L = m0) := by
       show _ = _
       rw [HF.out.2,HM.out,hfn]
     clear hs1i hs1
     go_wp2
     go_ret2
     exact ⟨by rw [HE.out]; rfl,bel_up' H1.out.2 HW.out⟩
def CEr (e : Int) (w : World) (x : Ending) (w' : World) : Prop := x = .returned (.tuple #[.agg #[.int .i64 0, .int .i64 0, .slice none 0 0], .int .i64 e]) ∧ Below w.heap.size w w'
set_option maxHeartbeats 4000000 in
set_option maxRecDepth 100000 in
theorem zat_err {q n e : Int} {m zc : Nat} {zo : Option Addr} {w : World} (h0 : e ≠ 0)
   (hG : ∀ wx,Below w.heap.size w wx → Calls Tryz.prog 10 #[.int .i64 q, .int .i64 n, .slice zo m zc] wx fun x w' => x = .returned (.tuple #[.slice none 0 0, .int .i64 e]) ∧ Below wx.heap.size wx w') :
   Calls Tryz.prog 63 #[.int .i64 q, .int .i64 n, .slice zo m zc] w (CEr e w) := by
 obtain ⟨w0,hw0⟩ : ∃ w0,w0 = w.alloc (.cells #[.int .i64 0, .int .i64 0, .slice none 0 0] 35) := ⟨_,rfl⟩
 have HW : Hid (Below w.heap.size w w0 ∧ RB w.heap.size w0) := by
   rw [hw0]; exact ⟨(Below.refl _ _).alloc (Nat.le_refl _) _,RB.new _ _ _ _⟩
 have HG : Hid (Calls Tryz.prog 10 #[.int .i64 q, .int .i64 n, .slice zo m zc] w0 fun x w' => x = .returned (.tuple #[.slice none 0 0, .int .i64 e]) ∧ Below w0.heap.size w0 w') := hG w0 HW.out.1
 have hne : (e != 0) = true := by rw [bne_iff_ne]; exact h0
 clear hG
 go_enter Tryz.func63,Tryz.ntmps63
 go_wp2_with fail
 rw [← hw0]
 clear hw0
 refine HG.out.mono ?_
 rintro x w1 ⟨rfl,hb1⟩
 have H11 : Hid (Below w.heap.size w w1 ∧ RB w.heap.size w1) := ⟨bel_up' HW.out.1 hb1,HW.out.2.keep hb1⟩
 clear hb1 HW HG
 obtain ⟨⟨x0,c0⟩,⟨x1,c1⟩,⟨x2,c2⟩,f0,f1,f2⟩ := H11.out.2
 go_wp2
 obtain ⟨w12,hw12⟩ : ∃ w12,w12 = laid w1 w.heap.size 0 0 (.slice none 0 0) := ⟨_,rfl⟩
 have H12 : Hid (CB w.heap.size 0 0 (.slice none 0 0) w12 ∧ Below w.heap.size w w12) := by
   rw [hw12]; exact ⟨laid_cb H11.out.2 _ _ _,laid_below H11.out.1 (Nat.le_refl _) _ _ _⟩
 unfold laid at hw12
 rw [← hw12]
 clear hw12 c0 c1 c2 f0 f1 f2
 obtain ⟨c0,c1,c2⟩ := H12.out.1
 refine bodyPost_ret (v := .tuple #[.agg #[.int .i64 0, .int .i64 0, .slice none 0 0], .int .i64 e]) (by simp [results,Tryz.results63,go_sem,c0,c1,c2]) rfl ?_
 exact ⟨rfl,H12.out.2⟩
def prm (n : Nat) : Nat → Bool
 | 0 => true
 | d + 1 => prm n d && (decide (d < 2) || n % d != 0)
theorem prm_no {n d : Nat} (h2 : 2 ≤ d) (h : n % d = 0) : ∀ N,d < N → prm n N = false
 | 0,h => absurd h (by omega)
 | N + 1,hd => by
   show (prm n N && (decide (N < 2) || n % N != 0)) = false
   by_cases c : d = N
   · rw [← c,h,decide_eq_false (by omega)]; simp
   · rw [prm_no h2 h N (by omega)]; rfl
set_option maxHeartbeats 2000000 in
set_option maxRecDepth 100000 in
theorem cprime_any {n : Nat} (hn : 2 ≤ n) (hn2 : n ≤ 64) (w : World) :
   Calls Tryz.prog 64 #[.int .i64 (n : Nat)] w fun e w' => e = .returned (.bool (prm n n)) ∧ w' = w := by
 obtain ⟨R,hR⟩ : ∃ R,R = prm n n := ⟨_,rfl⟩
 rw [← hR]
 have HR : Hid (R = prm n n) := hR
 clear hR
 go_enter Tryz.func64,Tryz.ntmps64
 go_wp2
 go_loopw [3] (fun vd wr => ∃ d : Nat,2 ≤ d ∧ d ≤ n ∧ vd = .int .i64 (d : Nat) ∧ Hid (prm n d = true ∧ wr = w)) (fun vd _ => n - (intOf vd).toNat)
 case atStart => exact ⟨2,by omega,by omega,rfl,rfl,rfl⟩
 case round =>
   obtain ⟨d,hd2,hdn,rfl,HI⟩ := hrel
   rename World => wr
   by_cases hlt : d < n
   · have hib : (d : Int) < (n : Int) := by omega
     have hn0 : ¬ (d : Int) = 0 := by omega
     have hn0b : ((d : Int) == 0) = false := by rw [beq_eq_false_iff_ne]; omega
     obtain ⟨x,hx⟩ : ∃ x,x = n % d := ⟨_,rfl⟩
     have hrm : (n : Int).tmod (d : Int) = (x : Int) := by rw [Int.tmod_eq_emod_of_nonneg (by omega),hx]; omega
     have hre : (n : Int) % (d : Int) = (x : Int) := by rw [hx]; omega
     have HX : Hid (x = n % d) := hx
     clear hx
     by_cases hx0 : x = 0
     · have hxb : ((x : Int) == 0) = true := by rw [beq_iff_eq]; omega
       have HE : Hid (R = false) := by
         show _ = _
         rw [HR.out]
         exact prm_no hd2 (by rw [← HX.out]; exact hx0) n hlt
       clear hx0
       go_wp2
       go_ret
       have e := HE.out
       subst e
       exact ⟨rfl,HI.out.2⟩
     · have hxb : ((x : Int) == 0) = false := by rw [beq_eq_false_iff_ne]; omega
       have HN : Hid (prm n (d + 1) = true ∧ wr = w) := by
         refine ⟨?_,HI.out.2⟩
         show (prm n d && (decide (d < 2) || n % d != 0)) = true
         rw [HI.out.1, ← HX.out]
         simp [hx0]
       clear hx0
       go_wp2
       go_roundw
       case rel => exact ⟨d + 1,by omega,by omega,by go_num,HN.out⟩
       case measure => simp [intOf]; omega
   · have hib : ¬ (d : Int) < (n : Int) := by omega
     have hde : d = n := by omega
     subst hde
     have HE : Hid (R = true) := by show _ = _; rw [HR.out]; exact HI.out.1
     go_wp2
     go_ret
     have e := HE.out
     subst e
     exact ⟨rfl,HI.out.2⟩
def sqrow (n i : Nat) : Nat := (i + 1) * (i + 1) % n
set_option maxHeartbeats 4000000 in
set_option maxRecDepth 100000 in
theorem csq_e1 {n : Int} (h : n < 3 ∨ 64 < n) (w : World) : Calls Tryz.prog 20 #[.int .i64 n] w (CEr 4 w) := by
 obtain ⟨w0,hw0⟩ : ∃ w0,w0 = w.alloc (.cells #[.int .i64 0, .int .i64 0, .slice none 0 0] 35) := ⟨_,rfl⟩
 have H11 : Hid (Below w.heap.size w w0 ∧ CB w.heap.size 0 0 (.slice none 0 0) w0) := by
   rw [hw0]; exact ⟨(Below.refl _ _).alloc (Nat.le_refl _) _,CB.new _ _ _ _⟩
 by_cases h1 : n < 3
 · go_enter Tryz.func20,Tryz.ntmps20
   go_wp2
   rw [← hw0]
   clear hw0
   obtain ⟨c0,c1,c2⟩ := H11.out.2
   refine bodyPost_ret (v := .tuple #[.agg #[.int .i64 0, .int .i64 0, .slice none 0 0], .int .i64 4]) (by simp [results,Tryz.results20,go_sem,c0,c1,c2]) rfl ?_
   exact ⟨rfl,H11.out.1⟩
 · have h2 : n > 64 := by omega
   have h3 : (64 : Int) < n := by omega
   clear h
   go_enter Tryz.func20,Tryz.ntmps20
   go_wp2
   rw [← hw0]
   clear hw0
   obtain ⟨c0,c1,c2⟩ := H11.out.2
   refine bodyPost_ret (v := .tuple #[.agg #[.int .i64 0, .int .i64 0, .slice none 0 0], .int .i64 4]) (by simp [results,Tryz.results20,go_sem,c0,c1,c2]) rfl ?_
   exact ⟨rfl,H11.out.1⟩
set_option maxHeartbeats 4000000 in
set_option maxRecDepth 100000 in
theorem csq_e2 {n : Nat} (h1 : 3 ≤ n) (h2 : n ≤ 64) (h : prm n n = false ∨ (n % 8 ≠ 1 ∧ n % 8 ≠ 7)) (w : World) : Calls Tryz.prog 20 #[.int .i64 (n : Nat)] w (CEr 3 w) := by
 obtain ⟨w0,hw0⟩ : ∃ w0,w0 = w.alloc (.cells #[.int .i64 0, .int .i64 0, .slice none 0 0] 35) := ⟨_,rfl⟩
 have H11 : Hid (Below w.heap.size w w0 ∧ CB w.heap.size 0 0 (.slice none 0 0) w0) := by
   rw [hw0]; exact ⟨(Below.refl _ _).alloc (Nat.le_refl _) _,CB.new _ _ _ _⟩
 have g1 : ¬ (n : Int) < 3 := by omega
 have g2 : ¬ (n : Int) > 64 := by omega
 have g3 : ¬ (64 : Int) < (n : Int) := by omega
 obtain ⟨x,hx⟩ : ∃ x,x = n % 8 := ⟨_,rfl⟩
 have hrm : (n : Int).tmod 8 = (x : Int) := by rw [Int.tmod_eq_emod_of_nonneg (by omega),hx]; omega
 have hre : (n : Int) % 8 = (x : Int) := by rw [hx]; omega
 rw [← hx] at h
 clear hx
 cases hp : prm n n with
 | false =>
   have HP : Hid (Calls Tryz.prog 64 #[.int .i64 (n : Nat)] w0 fun e w' => e = .returned (.bool false) ∧ w' = w0) := by
     have h := cprime_any (n := n) (by omega) h2 w0
     rw [hp] at h; exact h
   clear hp h
   go_enter Tryz.func20,Tryz.ntmps20
   go_wp2_with fail
   rw [← hw0]
   refine HP.out.mono ?_
   rintro e w1 ⟨rfl,hw1⟩
   have hw1 := hw1.symm
   subst hw1
   obtain ⟨⟨y0,c0⟩,⟨y1,c1⟩,⟨y2,c2⟩,f0,f1,f2⟩ : RB w.heap.size w0 := by rw [hw0]; exact RB.new _ _ _ _
   rw [hw0] at c0 c1 c2 f0 f1 f2
   rw [hw0]
   go_wp2
   rw [← hw0]
   clear hw0 c0 c1 c2 f0 f1 f2
   obtain ⟨c0,c1,c2⟩ := H11.out.2
   refine bodyPost_ret (v := .tuple #[.agg #[.int .i64 0, .int .i64 0, .slice none 0 0], .int .i64 3]) (by simp [results,Tryz.results20,go_sem,c0,c1,c2]) rfl ?_
   exact ⟨rfl,H11.out.1⟩
 | true =>
   have hx12 : x ≠ 1 ∧ x ≠ 7 := by
     rcases h with h | h
     · rw [hp] at h; cases h
     · exact h
   have hx1 : ((x : Int) != 1) = true := by rw [bne_iff_ne]; omega
   have hx2 : ((x : Int) != 7) = true := by rw [bne_iff_ne]; omega
   have HP : Hid (Calls Tryz.prog 64 #[.int .i64 (n : Nat)] w0 fun e w' => e = .returned (.bool true) ∧ w' = w0) := by
     have h := cprime_any (n := n) (by omega) h2 w0
     rw [hp] at h; exact h
   clear hp h hx12
   go_enter Tryz.func20,Tryz.ntmps20
   go_wp2_with fail
   rw [← hw0]
   refine HP.out.mono ?_
   rintro e w1 ⟨rfl,hw1⟩
   have hw1 := hw1.symm
   subst hw1
   rw [hw0]
   go_wp2
   rw [← hw0]
   clear hw0
   obtain ⟨c0,c1,c2⟩ := H11.out.2
   refine bodyPost_ret (v := .tuple #[.agg #[.int .i64 0, .int .i64 0, .slice none 0 0], .int .i64 3]) (by simp [results,Tryz.results20,go_sem,c0,c1,c2]) rfl ?_
   exact ⟨rfl,H11.out.1⟩
set_option maxHeartbeats 8000000 in
set_option maxRecDepth 100000 in
theorem csq_z {n : Nat} (h1 : 3 ≤ n) (h2 : n ≤ 64) (hp : prm n n = true) (h8 : n % 8 = 1 ∨ n % 8 = 7) {w : World} {T : Int → Int → Option Addr → Nat → Nat → Int → World → Prop}
   (hZ : ∀ wx zo zc,w.heap.size < wx.heap.size → SlZ zo (n - 1) (fun i => ((sqrow n i : Nat) : Int)) wx → LtB zo wx.heap.size → Calls Tryz.prog 63 #[.int .i64 2, .int .i64 (n : Nat), .slice zo (n - 1) zc] wx fun x w' => ∃ qv nv so sk sc e,x = .returned (.tuple #[.agg #[.int .i64 qv, .int .i64 nv, .slice so sk sc], .int .i64 e]) ∧ T qv nv so sk sc e w' ∧ Below wx.heap.size wx w')
   (hT : ∀ qv nv so sk sc e w',T qv nv so sk sc e w' → T qv nv so sk sc e (laid w' w.heap.size qv nv (.slice so sk sc))) :
   Calls Tryz.prog 20 #[.int .i64 (n : Nat)] w fun x w' => ∃ qv nv so sk sc e,x = .returned (.tuple #[.agg #[.int .i64 qv, .int .i64 nv, .slice so sk sc], .int .i64 e]) ∧ T qv nv so sk sc e w' ∧ Below w.heap.size w w' := by
 obtain ⟨w0,hw0⟩ : ∃ w0,w0 = w.alloc (.cells #[.int .i64 0, .int .i64 0, .slice none 0 0] 35) := ⟨_,rfl⟩
 have H0 : Hid (Below w.heap.size w w0 ∧ RB w.heap.size w0 ∧ w0.heap.size = w.heap.size + 1) := by
   rw [hw0]; exact ⟨(Below.refl _ _).alloc (Nat.le_refl _) _,RB.new _ _ _ _,by simp⟩
 have HZ : Hid ((∀ wx zo zc,w.heap.size < wx.heap.size → SlZ zo (n - 1) (fun i => ((sqrow n i : Nat) : Int)) wx → LtB zo wx.heap.size → Calls Tryz.prog 63 #[.int .i64 2, .int .i64 (n : Nat), .slice zo (n - 1) zc] wx fun x w' => ∃ qv nv so sk sc e,x = .returned (.tuple #[.agg #[.int .i64 qv, .int .i64 nv, .slice so sk sc], .int .i64 e]) ∧ T qv nv so sk sc e w' ∧ Below wx.heap.size wx w') ∧ ∀ qv nv so sk sc e w',T qv nv so sk sc e w' → T qv nv so sk sc e (laid w' w.heap.size qv nv (.slice so sk sc))) := ⟨hZ,hT⟩
 have g1 : ¬ (n : Int) < 3 := by omega
 have g2 : ¬ (n : Int) > 64 := by omega
 have g3 : ¬ (64 : Int) < (n : Int) := by omega
 have HP : Hid (Calls Tryz.prog 64 #[.int .i64 (n : Nat)] w0 fun e w' => e = .returned (.bool true) ∧ w' = w0) := by
   have h := cprime_any (n := n) (by omega) h2 w0
   rw [hp] at h; exact h
 obtain ⟨x,hx⟩ : ∃ x,x = n % 8 := ⟨_,rfl⟩
 have hrm : (n : Int).tmod 8 = (x : Int) := by rw [Int.tmod_eq_emod_of_nonneg (by omega),hx]; omega
 have hre : (n : Int) % 8 = (x : Int) := by rw [hx]; omega
 rw [← hx] at h8
 clear hx hZ hT hp
 go_enter Tryz.func20,Tryz.ntmps20
 go_wp2_with fail
 rw [← hw0]
 clear hw0
 refine HP.out.mono ?_
 rintro e w1 ⟨rfl,hw1⟩
 have hw1 := hw1.symm
 subst hw1
 clear HP
 rcases h8 with h8 | h8
 · have hx1 : ((x : Int) != 1) = false := by rw [bne_eq_false_iff_eq]; omega
   go_wp2
   go_loopw [4,5] (fun vl vi wr => ∃ r : Nat,r + 1 ≤ n ∧ vi = .int .i64 ((r : Int) + 1) ∧ Hid (OwnI w0.heap.size vl (zl r fun i => ((sqrow n i : Nat) : Int)) wr ∧ Below w0.heap.size w0 wr)) (fun _ vi _ => n - (intOf vi).toNat)
   case atStart => exact ⟨0,by omega,rfl,OwnI.nil _ _,Below.refl _ _⟩
   case round =>
     obtain ⟨r,hr,rfl,HI⟩ := hrel
     rename World => wr
     have hsz := HI.out.2.size
     obtain ⟨r1,hr1⟩ : ∃ r1,r1 = r + 1 := ⟨_,rfl⟩
     have hr1i : (r : Int) + 1 = (r1 : Int) := by omega
     rw [hr1i]
     have HR1 : Hid (r1 = r + 1) := hr1
     by_cases hlt : r1 < n
     · have hib : (r1 : Int) < (n : Int) := by omega
       obtain ⟨u,hu⟩ : ∃ u,u = r1 * r1 := ⟨_,rfl⟩
       have hui : (r1 : Int) * (r1 : Int) = (u : Int) := by rw [hu]; simp
       have hub : u ≤ 4096 := by rw [hu]; exact Nat.le_trans (Nat.mul_le_mul (show r1 ≤ 64 by omega) (show r1 ≤ 64 by omega)) (by decide)
       have huw : IntKind.i64.wrap (u : Int) = (u : Int) := wrap_to rfl (by omega)
       obtain ⟨y,hy⟩ : ∃ y,y = u % n := ⟨_,rfl⟩
       have hrm2 : (u : Int).tmod (n : Int) = (y : Int) := by rw [Int.tmod_eq_emod_of_nonneg (by omega),hy]; omega
       have hre2 : (u : Int) % (n : Int) = (y : Int) := by rw [hy]; omega
       have hn0 : ¬ (n : Int) = 0 := by omega
       have hn0b : ((n : Int) == 0) = false := by rw [beq_eq_false_iff_ne]; omega
       have HX : Hid (y = sqrow n r) := by show _ = _; rw [hy,hu,hr1]; rfl
       clear hu hy hr1i
       have hrb : r ≤ 64 := by omega
       clear hr1
       go_wp2_with (first
         | (at_builtin; refine append_int rfl _ _ rfl w0.heap.size _ (zl r fun i => ((sqrow n i : Nat) : Int)) rfl (HI.out.1.alloc _) ⟨_,0,none⟩ 1 (y : Nat) rfl (by simp) (by rw [zl_len]; omega) (by simp; omega) ?_; intro v2 w3 hown3 hgrow3))
       have HN : Hid (OwnI w0.heap.size v2 (zl (r + 1) fun i => ((sqrow n i : Nat) : Int)) w3 ∧ Below w0.heap.size w0 w3) := by
         refine ⟨?_,(HI.out.2.alloc hsz _).grown hgrow3 (by simp; omega) (fun k hk => (HI.out.1.lt k hk).1)⟩
         rw [zl_succ, ← HX.out]; exact hown3
       clear hown3 hgrow3
       go_roundw
       case rel => exact ⟨r + 1,by have := HR1.out; omega,by (have := HR1.out; subst this; first | rfl | go_num),HN.out⟩
       case measure => have := HR1.out; subst this; simp [intOf]; omega
     · have hib : ¬ (r1 : Int) < (n : Int) := by omega
       have hre2 : n - 1 = r := by omega
       obtain ⟨zo,zc,hv,hA⟩ := HI.out.1.argL
       subst hv
       have hZ := HZ.out.1 wr zo zc (by have := H0.out.2.2; omega) (by rw [hre2]; exact hA.sl) hA.lt
       rw [hre2] at hZ
       have HC : Hid (Calls Tryz.prog 63 #[.int .i64 2, .int .i64 (n : Nat), .slice zo r zc] wr fun x w' => ∃ qv nv so sk sc e,x = .returned (.tuple #[.agg #[.int .i64 qv, .int .i64 nv, .slice so sk sc], .int .i64 e]) ∧ T qv nv so sk sc e w' ∧ Below wr.heap.size wr w') := hZ
       clear hZ hA hr1i hr1 hre2
       go_wp2_with fail
       refine HC.out.mono ?_
       rintro x9 w11 ⟨qv,nv,so,sk,sc,e,rfl,hTT,hb11⟩
       have H11 : Hid (T qv nv so sk sc e w11 ∧ Below w.heap.size w w11 ∧ RB w.heap.size w11) := by
         have hbb := bel_up' HI.out.2 hb11
         exact ⟨hTT,bel_up' H0.out.1 hbb,H0.out.2.1.keep hbb⟩
       clear hTT hb11 HC
       obtain ⟨⟨x0,c0⟩,⟨x1,c1⟩,⟨x2,c2⟩,f0,f1,f2⟩ := H11.out.2.2
       go_wp2
       obtain ⟨w12,hw12⟩ : ∃ w12,w12 = laid w11 w.heap.size qv nv (.slice so sk sc) := ⟨_,rfl⟩
       have H12 : Hid (CB w.heap.size qv nv (.slice so sk sc) w12 ∧ T qv nv so sk sc e w12 ∧ Below w.heap.size w w12) := by
         rw [hw12]; exact ⟨laid_cb H11.out.2.2 _ _ _,HZ.out.2 _ _ _ _ _ _ _ H11.out.1,laid_below H11.out.2.1 (Nat.le_refl _) _ _ _⟩
       unfold laid at hw12
       rw [← hw12]
       clear hw12 c0 c1 c2 f0 f1 f2
       obtain ⟨c0,c1,c2⟩ := H12.out.1
       refine bodyPost_ret (v := .tuple #[.agg #[.int .i64 qv, .int .i64 nv, .slice so sk sc], .int .i64 e]) (by simp [results,Tryz.results20,go_sem,c0,c1,c2]) rfl ?_
       exact ⟨_,_,_,_,_,_,rfl,H12.out.2⟩
 · have hx1 : ((x : Int) != 1) = true := by rw [bne_iff_ne]; omega
   have hx7 : ((x : Int) != 7) = false := by rw [bne_eq_false_iff_eq]; omega
   go_wp2
   go_loopw [4,5] (fun vl vi wr => ∃ r : Nat,r + 1 ≤ n ∧ vi = .int .i64 ((r : Int) + 1) ∧ Hid (OwnI w0.heap.size vl (zl r fun i => ((sqrow n i : Nat) : Int)) wr ∧ Below w0.heap.size w0 wr)) (fun _ vi _ => n - (intOf vi).toNat)
   case atStart => exact ⟨0,by omega,rfl,OwnI.nil _ _,Below.refl _ _⟩
   case round =>
     obtain ⟨r,hr,rfl,HI⟩ := hrel
     rename World => wr
     have hsz := HI.out.2.size
     obtain ⟨r1,hr1⟩ : ∃ r1,r1 = r + 1 := ⟨_,rfl⟩
     have hr1i : (r : Int) + 1 = (r1 : Int) := by omega
     rw [hr1i]
     have HR1 : Hid (r1 = r + 1) := hr1
     by_cases hlt : r1 < n
     · have hib : (r1 : Int) < (n : Int) := by omega
       obtain ⟨u,hu⟩ : ∃ u,u = r1 * r1 := ⟨_,rfl⟩
       have hui : (r1 : Int) * (r1 : Int) = (u : Int) := by rw [hu]; simp
       have hub : u ≤ 4096 := by rw [hu]; exact Nat.le_trans (Nat.mul_le_mul (show r1 ≤ 64 by omega) (show r1 ≤ 64 by omega)) (by decide)
       have huw : IntKind.i64.wrap (u : Int) = (u : Int) := wrap_to rfl (by omega)
       obtain ⟨y,hy⟩ : ∃ y,y = u % n := ⟨_,rfl⟩
       have hrm2 : (u : Int).tmod (n : Int) = (y : Int) := by rw [Int.tmod_eq_emod_of_nonneg (by omega),hy]; omega
       have hre2 : (u : Int) % (n : Int) = (y : Int) := by rw [hy]; omega
       have hn0 : ¬ (n : Int) = 0 := by omega
       have hn0b : ((n : Int) == 0) = false := by rw [beq_eq_false_iff_ne]; omega
       have HX : Hid (y = sqrow n r) := by show _ = _; rw [hy,hu,hr1]; rfl
       clear hu hy hr1i
       have hrb : r ≤ 64 := by omega
       clear hr1
       go_wp2_with (first
         | (at_builtin; refine append_int rfl _ _ rfl w0.heap.size _ (zl r fun i => ((sqrow n i : Nat) : Int)) rfl (HI.out.1.alloc _) ⟨_,0,none⟩ 1 (y : Nat) rfl (by simp) (by rw [zl_len]; omega) (by simp; omega) ?_; intro v2 w3 hown3 hgrow3))
       have HN : Hid (OwnI w0.heap.size v2 (zl (r + 1) fun i => ((sqrow n i : Nat) : Int)) w3 ∧ Below w0.heap.size w0 w3) := by
         refine ⟨?_,(HI.out.2.alloc hsz _).grown hgrow3 (by simp; omega) (fun k hk => (HI.out.1.lt k hk).1)⟩
         rw [zl_succ, ← HX.out]; exact hown3
       clear hown3 hgrow3
       go_roundw
       case rel => exact ⟨r + 1,by have := HR1.out; omega,by (have := HR1.out; subst this; first | rfl | go_num),HN.out⟩
       case measure => have := HR1.out; subst this; simp [intOf]; omega
     · have hib : ¬ (r1 : Int) < (n : Int) := by omega
       have hre2 : n - 1 = r := by omega
       obtain ⟨zo,zc,hv,hA⟩ := HI.out.1.argL
       subst hv
       have hZ := HZ.out.1 wr zo zc (by have := H0.out.2.2; omega) (by rw [hre2]; exact hA.sl) hA.lt
       rw [hre2] at hZ
       have HC : Hid (Calls Tryz.prog 63 #[.int .i64 2, .int .i64 (n : Nat), .slice zo r zc] wr fun x w' => ∃ qv nv so sk sc e,x = .returned (.tuple #[.agg #[.int .i64 qv, .int .i64 nv, .slice so sk sc], .int .i64 e]) ∧ T qv nv so sk sc e w' ∧ Below wr.heap.size wr w') := hZ
       clear hZ hA hr1i hr1 hre2
       go_wp2_with fail
       refine HC.out.mono ?_
       rintro x9 w11 ⟨qv,nv,so,sk,sc,e,rfl,hTT,hb11⟩
       have H11 : Hid (T qv nv so sk sc e w11 ∧ Below w.heap.size w w11 ∧ RB w.heap.size w11) := by
         have hbb := bel_up' HI.out.2 hb11
         exact ⟨hTT,bel_up' H0.out.1 hbb,H0.out.2.1.keep hbb⟩
       clear hTT hb11 HC
       obtain ⟨⟨x0,c0⟩,⟨x1,c1⟩,⟨x2,c2⟩,f0,f1,f2⟩ := H11.out.2.2
       go_wp2
       obtain ⟨w12,hw12⟩ : ∃ w12,w12 = laid w11 w.heap.size qv nv (.slice so sk sc) := ⟨_,rfl⟩
       have H12 : Hid (CB w.heap.size qv nv (.slice so sk sc) w12 ∧ T qv nv so sk sc e w12 ∧ Below w.heap.size w w12) := by
         rw [hw12]; exact ⟨laid_cb H11.out.2.2 _ _ _,HZ.out.2 _ _ _ _ _ _ _ H11.out.1,laid_below H11.out.2.1 (Nat.le_refl _) _ _ _⟩
       unfold laid at hw12
       rw [← hw12]
       clear hw12 c0 c1 c2 f0 f1 f2
       obtain ⟨c0,c1,c2⟩ := H12.out.1
       refine bodyPost_ret (v := .tuple #[.agg #[.int .i64 qv, .int .i64 nv, .slice so sk sc], .int .i64 e]) (by simp [results,Tryz.results20,go_sem,c0,c1,c2]) rfl ?_
       exact ⟨_,_,_,_,_,_,rfl,H12.out.2⟩
end Go.Proofs.YtppggchhkckobaaGreat
namespace Go.Proofs.YtppggchhkckobaaGreat
def wsB (q n k s x : Nat) : Bool := (List.range s).any fun j => orb q n k j == x
theorem wsB_iff {q n k s x : Nat} : wsB q n k s x = true ↔ ∃ j,j < s ∧ orb q n k j = x := by
 unfold wsB
 rw [List.any_eq_true]
 constructor
 · rintro ⟨j,hj,e⟩; exact ⟨j,List.mem_range.1 hj,beq_iff_eq.1 e⟩
 · rintro ⟨j,hj,e⟩; exact ⟨j,List.mem_range.2 hj,beq_iff_eq.2 e⟩
theorem wsB_succ (q n k s x : Nat) : wsB q n k (s + 1) x = (wsB q n k s x || orb q n k s == x) := by
 unfold wsB
 rw [List.range_succ,List.any_append]
 simp
def orbB (q n k x : Nat) : Bool := wsB q n k n x
theorem orb_few {q n k : Nat} (hn : 0 < n) : ∀ j, ∃ i,i < n ∧ orb q n k i = orb q n k j := by
 obtain ⟨a,b,hab,hb,e⟩ : ∃ a b,a < b ∧ b < n + 1 ∧ orb q n k a = orb q n k b := by
   refine Classical.byContradiction fun c => ?_
   have hnd : ((List.range (n + 1)).map (orb q n k)).Nodup := by
     refine List.pairwise_map.2 ((List.pairwise_lt_range (n := n + 1)).imp_of_mem (fun {x y} hx hy hlt he => c ⟨x,y,hlt,List.mem_range.1 hy,he⟩))
   have := nd_len (n := n) hnd (fun x hx => by
     obtain ⟨j,_,rfl⟩ := List.mem_map.1 hx
     exact orb_lt hn)
   simp at this
   omega
 intro j
 induction j using Nat.strongRecOn with
 | ind j ih =>
   by_cases h : j < n
   · exact ⟨j,h,rfl⟩
   · obtain ⟨i,hi,he⟩ := ih (j - (b - a)) (by omega)
     refine ⟨i,hi,he.trans ?_⟩
     have h1 : orb q n k (j - (b - a)) = orb q n (orb q n k a) (j - b) := by rw [orb_orb]; congr 1; omega
     have h2 : orb q n k j = orb q n (orb q n k b) (j - b) := by rw [orb_orb]; congr 1; omega
     rw [h1,h2,e]
theorem orbB_iff {q n k x : Nat} (hn : 0 < n) : orbB q n k x = true ↔ ∃ j,orb q n k j = x := by
 unfold orbB
 rw [wsB_iff]
 constructor
 · rintro ⟨j,_,e⟩; exact ⟨j,e⟩
 · rintro ⟨j,e⟩
   obtain ⟨i,hi,h⟩ := orb_few (q := q) (k := k) hn j
   exact ⟨i,hi,h.trans e⟩
theorem wsB_end {q n k s : Nat} (hn : 0 < n) (h : wsB q n k s (orb q n k s) = true) (x : Nat) : wsB q n k s x = orbB q n k x := by
 have hm : ∀ y,y ∈ (List.range s).map (orb q n k) ↔ y ∈ ([] : List Nat) ∨ ∃ j,j < s ∧ orb q n k j = y := fun y => by
   rw [List.mem_map]
   constructor
   · rintro ⟨j,hj,e⟩; exact Or.inr ⟨j,List.mem_range.1 hj,e⟩
   · rintro (h | ⟨j,hj,e⟩)
     · cases h
     · exact ⟨j,List.mem_range.2 hj,e⟩
 obtain ⟨j0,hj0,e0⟩ := wsB_iff.1 h
 have hw := walk_end (q := q) (n := n) (z := k) (s := s) hn (L := []) (fun k h => by cases h) hm (List.mem_map.2 ⟨j0,List.mem_range.2 hj0,e0⟩)
 rw [Bool.eq_iff_iff,wsB_iff,orbB_iff hn]
 constructor
 · rintro ⟨j,_,e⟩; exact ⟨j,e⟩
 · rintro ⟨j,e⟩
   have := hw.2 j
   rw [e] at this
   obtain ⟨i,hi,h⟩ := List.mem_map.1 this
   exact ⟨i,List.mem_range.1 hi,h⟩
theorem ws_nodup {q n k s : Nat} (hd : ((List.range s).map (orb q n k)).Nodup) (h : wsB q n k s (orb q n k s) = false) : ((List.range (s + 1)).map (orb q n k)).Nodup := by
 rw [List.range_succ,List.map_append,List.nodup_append]
 refine ⟨hd,by simp,fun a ha b hb e => ?_⟩
 rw [List.map_singleton,List.mem_singleton] at hb
 obtain ⟨j,hj,rfl⟩ := List.mem_map.1 ha
 have : wsB q n k s (orb q n k s) = true := wsB_iff.2 ⟨j,List.mem_range.1 hj,e.trans hb⟩
 rw [h] at this; cases this
theorem ws_le {q n k s : Nat} (hn : 0 < n) (hd : ((List.range s).map (orb q n k)).Nodup) : s ≤ n := by
 have := nd_len (n := n) hd (fun x hx => by
   obtain ⟨j,_,rfl⟩ := List.mem_map.1 hx
   exact orb_lt hn)
 simpa using this
def inB (q n k x : Nat) : Bool := (List.range k).any fun j => orbB q n j x
theorem inB_succ (q n k x : Nat) : inB q n (k + 1) x = (inB q n k x || orbB q n k x) := by
 unfold inB
 rw [List.range_succ,List.any_append]
 simp
theorem inB_same {q n k : Nat} (hn : 0 < n) (h : inB q n k k = true) (x : Nat) : inB q n (k + 1) x = inB q n k x := by
 rw [inB_succ]
 cases hx : orbB q n k x with
 | false => rw [Bool.or_false]
 | true =>
   rw [Bool.or_true]
   obtain ⟨j,hj,h1⟩ := List.any_eq_true.1 h
   obtain ⟨a,ha⟩ := (orbB_iff hn).1 h1
   obtain ⟨b,hb⟩ := (orbB_iff hn).1 hx
   have h2 : orbB q n j x = true := (orbB_iff hn).2 ⟨a + b,by rw [← orb_orb,ha,hb]⟩
   have h3 : inB q n k x = true := List.any_eq_true.2 ⟨j,hj,h2⟩
   exact h3.symm
def cosR (q n k : Nat) : List Nat := (List.range n).filter (orbB q n k)
def cosL (q n k : Nat) : List (List Nat) := ((List.range k).filter fun j => !inB q n j j).map (cosR q n)
theorem cosL_skip {q n k : Nat} (h : inB q n k k = true) : cosL q n (k + 1) = cosL q n k := by
 unfold cosL
 rw [List.range_succ,List.filter_append]
 simp [h]
theorem cosL_new {q n k : Nat} (h : inB q n k k = false) : cosL q n (k + 1) = cosL q n k ++ [cosR q n k] := by
 unfold cosL
 rw [List.range_succ,List.filter_append]
 simp [h]
end Go.Proofs.YtppggchhkckobaaGreat
namespace Go.Proofs.YtppggchhkckobaaGreat
open Go.RowKit Go.Sort
theorem own_low {base : Nat} {v : Value} {l : List Int} {w w' : World} (h : OwnI base v l w) (hs : ∀ g,base ≤ g → g < w.heap.size → w'.heap[g]? = w.heap[g]?) : OwnI base v l w' := by
 refine ⟨h.1, ?_⟩
 rcases h.2 with h1 | ⟨g,cap,cur,hv,hg,hh,r⟩
 · exact Or.inl h1
 · exact Or.inr ⟨g,cap,cur,hv,hg,by rw [hs g hg (lt_of_block hh)]; exact hh,r⟩
theorem ownV_low {base : Nat} {v : Value} {l : List Value} {w w' : World} (h : OwnV base v l w) (hs : ∀ g,base ≤ g → g < w.heap.size → w'.heap[g]? = w.heap[g]?) : OwnV base v l w' := by
 refine ⟨h.1, ?_⟩
 rcases h.2 with h1 | ⟨g,cap,cur,hv,hg,hh,r⟩
 · exact Or.inl h1
 · exact Or.inr ⟨g,cap,cur,hv,hg,by rw [hs g hg (lt_of_block hh)]; exact hh,r⟩
def nzl (c : List Nat) : List Int := c.map fun j => ((j : Nat) : Int)
def NLs (base : Nat) (v : Value) (Ls : List (List Nat)) (w : World) : Prop := ∃ l,OwnV base v l w ∧ l.length = Ls.length ∧ ∀ (j : Nat) (u : Value) (c : List Nat),l[j]? = some u → Ls[j]? = some c → OwnI base u (nzl c) w
theorem NLs.nil (base : Nat) (w : World) : NLs base (.slice none 0 0) [] w := ⟨[],OwnV.nil _ _,rfl,fun j u c h => by simp at h⟩
theorem NLs.low {base : Nat} {v : Value} {Ls : List (List Nat)} {w w' : World} (h : NLs base v Ls w) (hs : ∀ g,base ≤ g → g < w.heap.size → w'.heap[g]? = w.heap[g]?) : NLs base v Ls w' := by
 obtain ⟨l,h1,h2,h3⟩ := h
 exact ⟨l,ownV_low h1 hs,h2,fun j u c hu hc => own_low (h3 j u c hu hc) hs⟩
theorem NLs.below {base : Nat} {v : Value} {Ls : List (List Nat)} {w w' : World} (h : NLs base v Ls w) (hb : Below w.heap.size w w') : NLs base v Ls w' := by
 obtain ⟨l,h1,h2,h3⟩ := h
 exact ⟨l,h1.below hb (Nat.le_refl _),h2,fun j u c hu hc => (h3 j u c hu hc).below hb (fun i hi => ((h3 j u c hu hc).lt i hi).2)⟩
theorem NLs.push {base : Nat} {v' u : Value} {l : List Value} {Ls : List (List Nat)} {c : List Nat} {w w' : World} (h2 : l.length = Ls.length) (h3 : ∀ (j : Nat) (u : Value) (c : List Nat),l[j]? = some u → Ls[j]? = some c → OwnI base u (nzl c) w) (hu : OwnI base u (nzl c) w) (hk : ∀ x d,OwnI base x (nzl d) w → OwnI base x (nzl d) w') (ho : OwnV base v' (l ++ [u]) w') : NLs base v' (Ls ++ [c]) w' := by
 refine ⟨_,ho,by rw [List.length_append,List.length_append,h2]; rfl,fun j x d hx hd => ?_⟩
 by_cases e : j < l.length
 · rw [List.getElem?_append_left e] at hx
   rw [List.getElem?_append_left (by omega)] at hd
   exact hk x d (h3 j x d hx hd)
 · rw [List.getElem?_append_right (by omega)] at hx
   rw [List.getElem?_append_right (by omega)] at hd
   have hj : j - l.length = 0 := by
     have := (List.getElem?_eq_some_iff.1 hx).1
     simp at this; omega
   rw [hj] at hx
   rw [show j - Ls.length = 0 by omega] at hd
   simp at hx hd
   rw [← hx, ← hd]
   exact hk u c hu
end Go.Proofs.YtppggchhkckobaaGreat
