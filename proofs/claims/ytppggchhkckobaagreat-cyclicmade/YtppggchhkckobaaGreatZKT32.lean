/- Texts of ours, one behind the other: KT32 KT33. -/
import Derived.Test.YtppggchhkckobaaGreatZKT30
import Derived.Test.YtppggchhkckobaaGreatZKT8
import Derived.Test.YtppggchhkckobaaGreatZKT28
namespace Go.Proofs.YtppggchhkckobaaGreat
open Go.RowKit Go.Sort
set_option maxHeartbeats 8000000 in
set_option maxRecDepth 100000 in
theorem bch_e1 {q n f m e : Int} {w : World} (h0 : e ≠ 0)
   (hC : ∀ wx,Below w.heap.size w wx → Calls Tryz.prog 30 #[.int .i64 q, .int .i64 n] wx fun x w' => x = .returned (.int .i64 e) ∧ Below wx.heap.size wx w') :
   Calls Tryz.prog 18 #[.int .i64 q, .int .i64 n, .int .i64 f, .int .i64 m] w (CEr e w) := by
 obtain ⟨w0,hw0⟩ : ∃ w0,w0 = w.alloc (.cells #[.int .i64 0, .int .i64 0, .slice none 0 0] 35) := ⟨_,rfl⟩
 have HW : Hid (Below w.heap.size w w0 ∧ RB w.heap.size w0 ∧ w0.heap.size = w.heap.size + 1) := by
   rw [hw0]; exact ⟨(Below.refl _ _).alloc (Nat.le_refl _) _,RB.new _ _ _ _,by simp⟩
 have HC : Hid (Calls Tryz.prog 30 #[.int .i64 q, .int .i64 n] w0 fun x w' => x = .returned (.int .i64 e) ∧ Below w0.heap.size w0 w') := hC w0 HW.out.1
 have hne : (e != 0) = true := by rw [bne_iff_ne]; exact h0
 clear hC h0
 go_enter Tryz.func18,Tryz.ntmps18
 go_wp2_with fail
 rw [← hw0]
 clear hw0
 refine HC.out.mono ?_
 rintro x w1 ⟨rfl,hb1⟩
 have H1 : Hid (Below w.heap.size w w1 ∧ RB w.heap.size w1) := ⟨bel_up' HW.out.1 hb1,HW.out.2.1.keep hb1⟩
 clear hb1 HW HC
 obtain ⟨⟨x0,c0⟩,⟨x1,c1⟩,⟨x2,c2⟩,f0,f1,f2⟩ := H1.out.2
 go_wp2
 obtain ⟨w12,hw12⟩ : ∃ w12,w12 = laid w1 w.heap.size 0 0 (.slice none 0 0) := ⟨_,rfl⟩
 have H12 : Hid (CB w.heap.size 0 0 (.slice none 0 0) w12 ∧ Below w.heap.size w w12) := by
   rw [hw12]; exact ⟨laid_cb H1.out.2 _ _ _,laid_below H1.out.1 (Nat.le_refl _) _ _ _⟩
 unfold laid at hw12
 rw [← hw12]
 clear hw12 c0 c1 c2 f0 f1 f2
 obtain ⟨c0,c1,c2⟩ := H12.out.1
 refine bodyPost_ret (v := .tuple #[.agg #[.int .i64 0, .int .i64 0, .slice none 0 0], .int .i64 e]) (by simp [results,Tryz.results18,go_sem,c0,c1,c2]) rfl ?_
 exact ⟨rfl,H12.out.2⟩
set_option maxHeartbeats 8000000 in
set_option maxRecDepth 100000 in
theorem bch_e2 {q n f m : Int} {w : World} (h : f < 0 ∨ n ≤ f)
   (hC : ∀ wx,Below w.heap.size w wx → Calls Tryz.prog 30 #[.int .i64 q, .int .i64 n] wx fun x w' => x = .returned (.int .i64 0) ∧ Below wx.heap.size wx w') :
   Calls Tryz.prog 18 #[.int .i64 q, .int .i64 n, .int .i64 f, .int .i64 m] w (CEr 10 w) := by
 obtain ⟨w0,hw0⟩ : ∃ w0,w0 = w.alloc (.cells #[.int .i64 0, .int .i64 0, .slice none 0 0] 35) := ⟨_,rfl⟩
 have HW : Hid (Below w.heap.size w w0 ∧ RB w.heap.size w0 ∧ w0.heap.size = w.heap.size + 1) := by
   rw [hw0]; exact ⟨(Below.refl _ _).alloc (Nat.le_refl _) _,RB.new _ _ _ _,by simp⟩
 have HC : Hid (Calls Tryz.prog 30 #[.int .i64 q, .int .i64 n] w0 fun x w' => x = .returned (.int .i64 0) ∧ Below w0.heap.size w0 w') := hC w0 HW.out.1
 clear hC
 go_enter Tryz.func18,Tryz.ntmps18
 go_wp2_with fail
 rw [← hw0]
 clear hw0
 refine HC.out.mono ?_
 rintro x w1 ⟨rfl,hb1⟩
 have H1 : Hid (Below w.heap.size w w1 ∧ RB w.heap.size w1) := ⟨bel_up' HW.out.1 hb1,HW.out.2.1.keep hb1⟩
 clear hb1 HW HC
 by_cases h1 : f < 0
 · clear h
   obtain ⟨⟨x0,c0⟩,⟨x1,c1⟩,⟨x2,c2⟩,f0,f1,f2⟩ := H1.out.2
   go_wp2
   obtain ⟨w12,hw12⟩ : ∃ w12,w12 = laid w1 w.heap.size 0 0 (.slice none 0 0) := ⟨_,rfl⟩
   have H12 : Hid (CB w.heap.size 0 0 (.slice none 0 0) w12 ∧ Below w.heap.size w w12) := by
     rw [hw12]; exact ⟨laid_cb H1.out.2 _ _ _,laid_below H1.out.1 (Nat.le_refl _) _ _ _⟩
   unfold laid at hw12
   rw [← hw12]
   clear hw12 c0 c1 c2 f0 f1 f2
   obtain ⟨c0,c1,c2⟩ := H12.out.1
   refine bodyPost_ret (v := .tuple #[.agg #[.int .i64 0, .int .i64 0, .slice none 0 0], .int .i64 10]) (by simp [results,Tryz.results18,go_sem,c0,c1,c2]) rfl ?_
   exact ⟨rfl,H12.out.2⟩
 · have h2 : n ≤ f := by omega
   have h3 : f ≥ n := h2
   clear h
   obtain ⟨⟨x0,c0⟩,⟨x1,c1⟩,⟨x2,c2⟩,f0,f1,f2⟩ := H1.out.2
   go_wp2
   obtain ⟨w12,hw12⟩ : ∃ w12,w12 = laid w1 w.heap.size 0 0 (.slice none 0 0) := ⟨_,rfl⟩
   have H12 : Hid (CB w.heap.size 0 0 (.slice none 0 0) w12 ∧ Below w.heap.size w w12) := by
     rw [hw12]; exact ⟨laid_cb H1.out.2 _ _ _,laid_below H1.out.1 (Nat.le_refl _) _ _ _⟩
   unfold laid at hw12
   rw [← hw12]
   clear hw12 c0 c1 c2 f0 f1 f2
   obtain ⟨c0,c1,c2⟩ := H12.out.1
   refine bodyPost_ret (v := .tuple #[.agg #[.int .i64 0, .int .i64 0, .slice none 0 0], .int .i64 10]) (by simp [results,Tryz.results18,go_sem,c0,c1,c2]) rfl ?_
   exact ⟨rfl,H12.out.2⟩
set_option maxHeartbeats 8000000 in
set_option maxRecDepth 100000 in
theorem bch_e3 {q n f m : Int} {w : World} (hf0 : 0 ≤ f) (hf1 : f < n) (h : m < 0 ∨ n ≤ m)
   (hC : ∀ wx,Below w.heap.size w wx → Calls Tryz.prog 30 #[.int .i64 q, .int .i64 n] wx fun x w' => x = .returned (.int .i64 0) ∧ Below wx.heap.size wx w') :
   Calls Tryz.prog 18 #[.int .i64 q, .int .i64 n, .int .i64 f, .int .i64 m] w (CEr 6 w) := by
 obtain ⟨w0,hw0⟩ : ∃ w0,w0 = w.alloc (.cells #[.int .i64 0, .int .i64 0, .slice none 0 0] 35) := ⟨_,rfl⟩
 have HW : Hid (Below w.heap.size w w0 ∧ RB w.heap.size w0 ∧ w0.heap.size = w.heap.size + 1) := by
   rw [hw0]; exact ⟨(Below.refl _ _).alloc (Nat.le_refl _) _,RB.new _ _ _ _,by simp⟩
 have HC : Hid (Calls Tryz.prog 30 #[.int .i64 q, .int .i64 n] w0 fun x w' => x = .returned (.int .i64 0) ∧ Below w0.heap.size w0 w') := hC w0 HW.out.1
 have hf2 : ¬ f < 0 := by omega
 have hf3 : ¬ n ≤ f := by omega
 have hf4 : ¬ f ≥ n := by omega
 clear hf0 hf1
 clear hC
 go_enter Tryz.func18,Tryz.ntmps18
 go_wp2_with fail
 rw [← hw0]
 clear hw0
 refine HC.out.mono ?_
 rintro x w1 ⟨rfl,hb1⟩
 have H1 : Hid (Below w.heap.size w w1 ∧ RB w.heap.size w1) := ⟨bel_up' HW.out.1 hb1,HW.out.2.1.keep hb1⟩
 clear hb1 HW HC
 by_cases h1 : m < 0
 · clear h
   obtain ⟨⟨x0,c0⟩,⟨x1,c1⟩,⟨x2,c2⟩,f0,f1,f2⟩ := H1.out.2
   go_wp2
   obtain ⟨w12,hw12⟩ : ∃ w12,w12 = laid w1 w.heap.size 0 0 (.slice none 0 0) := ⟨_,rfl⟩
   have H12 : Hid (CB w.heap.size 0 0 (.slice none 0 0) w12 ∧ Below w.heap.size w w12) := by
     rw [hw12]; exact ⟨laid_cb H1.out.2 _ _ _,laid_below H1.out.1 (Nat.le_refl _) _ _ _⟩
   unfold laid at hw12
   rw [← hw12]
   clear hw12 c0 c1 c2 f0 f1 f2
   obtain ⟨c0,c1,c2⟩ := H12.out.1
   refine bodyPost_ret (v := .tuple #[.agg #[.int .i64 0, .int .i64 0, .slice none 0 0], .int .i64 6]) (by simp [results,Tryz.results18,go_sem,c0,c1,c2]) rfl ?_
   exact ⟨rfl,H12.out.2⟩
 · have h2 : n ≤ m := by omega
   have h3 : m ≥ n := h2
   clear h
   obtain ⟨⟨x0,c0⟩,⟨x1,c1⟩,⟨x2,c2⟩,f0,f1,f2⟩ := H1.out.2
   go_wp2
   obtain ⟨w12,hw12⟩ : ∃ w12,w12 = laid w1 w.heap.size 0 0 (.slice none 0 0) := ⟨_,rfl⟩
   have H12 : Hid (CB w.heap.size 0 0 (.slice none 0 0) w12 ∧ Below w.heap.size w w12) := by
     rw [hw12]; exact ⟨laid_cb H1.out.2 _ _ _,laid_below H1.out.1 (Nat.le_refl _) _ _ _⟩
   unfold laid at hw12
   rw [← hw12]
   clear hw12 c0 c1 c2 f0 f1 f2
   obtain ⟨c0,c1,c2⟩ := H12.out.1
   refine bodyPost_ret (v := .tuple #[.agg #[.int .i64 0, .int .i64 0, .slice none 0 0], .int .i64 6]) (by simp [results,Tryz.results18,go_sem,c0,c1,c2]) rfl ?_
   exact ⟨rfl,H12.out.2⟩
set_option maxHeartbeats 8000000 in
set_option maxRecDepth 100000 in
theorem bch_z {q n f m : Nat} (hn1 : 1 ≤ n) (hn64 : n ≤ 64) (hf : f < n) (hm : m < n) {w : World} {T : Int → Int → Option Addr → Nat → Nat → Int → World → Prop}
   (hC : ∀ wx,Below w.heap.size w wx → Calls Tryz.prog 30 #[.int .i64 (q : Nat), .int .i64 (n : Nat)] wx fun x w' => x = .returned (.int .i64 0) ∧ Below wx.heap.size wx w')
   (hZ : ∀ wx zo zc,w.heap.size < wx.heap.size → SlZ zo m (fun i => ((bzrow n f i : Nat) : Int)) wx → LtB zo wx.heap.size → Calls Tryz.prog 63 #[.int .i64 (q : Nat), .int .i64 (n : Nat), .slice zo m zc] wx fun x w' => ∃ qv nv so sk sc e,x = .returned (.tuple #[.agg #[.int .i64 qv, .int .i64 nv, .slice so sk sc], .int .i64 e]) ∧ T qv nv so sk sc e w' ∧ Below wx.heap.size wx w')
   (hT : ∀ qv nv so sk sc e w',T qv nv so sk sc e w' → T qv nv so sk sc e (laid w' w.heap.size qv nv (.slice so sk sc))) :
   Calls Tryz.prog 18 #[.int .i64 (q : Nat), .int .i64 (n : Nat), .int .i64 (f : Nat), .int .i64 (m : Nat)] w fun x w' => ∃ qv nv so sk sc e,x = .returned (.tuple #[.agg #[.int .i64 qv, .int .i64 nv, .slice so sk sc], .int .i64 e]) ∧ T qv nv so sk sc e w' ∧ Below w.heap.size w w' := by
 obtain ⟨w0,hw0⟩ : ∃ w0,w0 = w.alloc (.cells #[.int .i64 0, .int .i64 0, .slice none 0 0] 35) := ⟨_,rfl⟩
 have HW : Hid (Below w.heap.size w w0 ∧ RB w.heap.size w0 ∧ w0.heap.size = w.heap.size + 1) := by
   rw [hw0]; exact ⟨(Below.refl _ _).alloc (Nat.le_refl _) _,RB.new _ _ _ _,by simp⟩
 have HC : Hid (Calls Tryz.prog 30 #[.int .i64 (q : Nat), .int .i64 (n : Nat)] w0 fun x w' => x = .returned (.int .i64 0) ∧ Below w0.heap.size w0 w') := hC w0 HW.out.1
 have HZ : Hid ((∀ wx zo zc,w.heap.size < wx.heap.size → SlZ zo m (fun i => ((bzrow n f i : Nat) : Int)) wx → LtB zo wx.heap.size → Calls Tryz.prog 63 #[.int .i64 (q : Nat), .int .i64 (n : Nat), .slice zo m zc] wx fun x w' => ∃ qv nv so sk sc e,x = .returned (.tuple #[.agg #[.int .i64 qv, .int .i64 nv, .slice so sk sc], .int .i64 e]) ∧ T qv nv so sk sc e w' ∧ Below wx.heap.size wx w') ∧ (∀ qv nv so sk sc e w',T qv nv so sk sc e w' → T qv nv so sk sc e (laid w' w.heap.size qv nv (.slice so sk sc)))) := ⟨hZ,hT⟩
 have hf1 : ¬ (f : Int) < 0 := by omega
 have hf2 : ¬ (f : Int) ≥ (n : Int) := by omega
 have hf3 : ¬ (n : Int) ≤ (f : Int) := by omega
 have hm1 : ¬ (m : Int) < 0 := by omega
 have hm2 : ¬ (m : Int) ≥ (n : Int) := by omega
 have hm3 : ¬ (n : Int) ≤ (m : Int) := by omega
 clear hC hZ hT
 go_enter Tryz.func18,Tryz.ntmps18
 go_wp2_with fail
 rw [← hw0]
 clear hw0
 refine HC.out.mono ?_
 rintro x w1 ⟨rfl,hb1⟩
 have H1 : Hid (Below w.heap.size w w1 ∧ RB w.heap.size w1 ∧ w.heap.size < w1.heap.size) := ⟨bel_up' HW.out.1 hb1,HW.out.2.1.keep hb1,by have := hb1.size; have := HW.out.2.2; omega⟩
 clear hb1 HW HC
 go_wp2_with (first | (at_make; refine make_int rfl _ _ rfl _ m rfl rfl rfl (by omega) ?_; intro w3 hown3 hgrow3))
 have H3 : Hid (Row w1.heap.size m pnil w3 ∧ Below w1.heap.size w1 w3) := ⟨row_zeros hown3,below_grown hgrow3 (Nat.le_refl _) (fun k hk => by simp at hk)⟩
 clear hown3 hgrow3
 obtain ⟨g,hg⟩ : ∃ g,g = w1.heap.size := ⟨_,rfl⟩
 rw [← hg] at H3
 try rw [← hg]
 have HG : Hid (g = w1.heap.size) := hg
 clear hg
 go_loopw [43] (fun vi wr => ∃ r : Nat, ∃ c : Nat → Nat,r ≤ m ∧ vi = .int .i64 (r : Nat) ∧ Hid (Row g m c wr ∧ (∀ i,i < r → c i = bzrow n f i) ∧ Below g w1 wr)) (fun vi _ => m - (intOf vi).toNat)
 case atStart => exact ⟨0,pnil,by omega,rfl,H3.out.1,fun i hi => absurd hi (by omega),by rw [HG.out]; exact HG.out ▸ H3.out.2⟩
 case round =>
   obtain ⟨r,c,hr,rfl,HI⟩ := hrel
   rename World => wr
   by_cases hlt : r < m
   · have hib : (r : Int) < (m : Int) := by omega
     have hib0 : (0 : Int) ≤ (r : Int) := by omega
     obtain ⟨u,hu⟩ : ∃ u,u = f + r := ⟨_,rfl⟩
     have hui : (f : Int) + (r : Int) = (u : Int) := by omega
     have huw : IntKind.i64.wrap (u : Int) = (u : Int) := wrap_to rfl (by omega)
     obtain ⟨x,hx⟩ : ∃ x,x = u % n := ⟨_,rfl⟩
     have hrm : (u : Int).tmod (n : Int) = (x : Int) := by rw [Int.tmod_eq_emod_of_nonneg (by omega),hx]; omega
     have hre : (u : Int) % (n : Int) = (x : Int) := by rw [hx]; omega
     have hn0 : ¬ (n : Int) = 0 := by omega
     have hn0b : ((n : Int) == 0) = false := by rw [beq_eq_false_iff_ne]; omega
     have HX : Hid (x = bzrow n f r) := by show _ = _; rw [hx,hu]; rfl
     clear hu hx
     have c0 := HI.out.1.cell r hlt
     have f0 := HI.out.1.free r
     go_wp2
     have HN : Hid (Row g m (fun j => if j = r then x else c j) (wr.setCell ⟨g,r,none⟩ (.int .i64 (x : Nat))) ∧ (∀ i,i < r + 1 → (fun j => if j = r then x else c j) i = bzrow n f i) ∧ Below g w1 (wr.setCell ⟨g,r,none⟩ (.int .i64 (x : Nat)))) := by
       refine ⟨HI.out.1.store r x (fun j _ => rfl),fun i hi => ?_,HI.out.2.2.setCell (Nat.le_refl _) _⟩
       show (if i = r then x else c i) = bzrow n f i
       by_cases e : i = r
       · rw [if_pos e,e]; exact HX.out
       · rw [if_neg e]; exact HI.out.2.1 i (by omega)
     clear c0 f0
     go_roundw
     case rel => exact ⟨r + 1,_,by omega,by go_num,HN.out⟩
     case measure => simp [intOf]; omega
   · have hib : ¬ (r : Int) < (m : Int) := by omega
     have hre : r = m := by omega
     subst hre
     have HB : Hid (Below w1.heap.size w1 wr ∧ SlZ (some ⟨g,0,none⟩) r (fun i => ((bzrow n f i : Nat) : Int)) wr ∧ g < wr.heap.size) := by
       refine ⟨by have h1 := HI.out.2.2; rw [HG.out] at h1; exact h1,fun i hi => ⟨g,0,rfl, ?_⟩,HI.out.1.lt⟩
       rw [Nat.zero_add,HI.out.1.cell i hi,HI.out.2.1 i hi]
     have hszr : w.heap.size < wr.heap.size := by have := HB.out.1.size; have := H1.out.2.2; omega
     have HZr : Hid (Calls Tryz.prog 63 #[.int .i64 (q : Nat), .int .i64 (n : Nat), .slice (some ⟨g,0,none⟩) r r] wr fun x w' => ∃ qv nv so sk sc e,x = .returned (.tuple #[.agg #[.int .i64 qv, .int .i64 nv, .slice so sk sc], .int .i64 e]) ∧ T qv nv so sk sc e w' ∧ Below wr.heap.size wr w') := HZ.out.1 wr _ _ hszr HB.out.2.1 (fun x hx => by cases hx; exact HB.out.2.2)
     go_wp2_with fail
     refine HZr.out.mono ?_
     rintro x w11 ⟨qv,nv,so,sk,sc,e,rfl,hTT,hb11⟩
     have H11 : Hid (T qv nv so sk sc e w11 ∧ Below w.heap.size w w11 ∧ RB w.heap.size w11) := by
       have hbb := bel_up' HB.out.1 hb11
       exact ⟨hTT,bel_up' H1.out.1 hbb,H1.out.2.1.keep hbb⟩
     clear hTT hb11 HZr hszr
     obtain ⟨⟨x0,c0⟩,⟨x1,c1⟩,⟨x2,c2⟩,f0,f1,f2⟩ := H11.out.2.2
     go_wp2
     obtain ⟨w12,hw12⟩ : ∃ w12,w12 = laid w11 w.heap.size qv nv (.slice so sk sc) := ⟨_,rfl⟩
     have H12 : Hid (CB w.heap.size qv nv (.slice so sk sc) w12 ∧ T qv nv so sk sc e w12 ∧ Below w.heap.size w w12) := by
       rw [hw12]; exact ⟨laid_cb H11.out.2.2 _ _ _,HZ.out.2 _ _ _ _ _ _ _ H11.out.1,laid_below H11.out.2.1 (Nat.le_refl _) _ _ _⟩
     unfold laid at hw12
     rw [← hw12]
     clear hw12 c0 c1 c2 f0 f1 f2
     obtain ⟨c0,c1,c2⟩ := H12.out.1
     refine bodyPost_ret (v := .tuple #[.agg #[.int .i64 qv, .int .i64 nv, .slice so sk sc], .int .i64 e]) (by simp [results,Tryz.results18,go_sem,c0,c1,c2]) rfl ?_
     exact ⟨_,_,_,_,_,_,rfl,H12.out.2⟩
set_option maxHeartbeats 8000000 in
set_option maxRecDepth 100000 in
theorem rbch_e1 {q n f m e : Int} {w : World} (h0 : e ≠ 0)
   (hC : ∀ wx,Below w.heap.size w wx → Calls Tryz.prog 8 #[.int .i64 q, .int .i64 n] wx fun x w' => x = .returned (.tuple #[.slice none 0 0, .int .i64 e]) ∧ Below wx.heap.size wx w') :
   Calls Tryz.prog 19 #[.int .i64 q, .int .i64 n, .int .i64 f, .int .i64 m] w (CEr e w) := by
 obtain ⟨w0,hw0⟩ : ∃ w0,w0 = w.alloc (.cells #[.int .i64 0, .int .i64 0, .slice none 0 0] 35) := ⟨_,rfl⟩
 have HW : Hid (Below w.heap.size w w0 ∧ RB w.heap.size w0 ∧ w0.heap.size = w.heap.size + 1) := by
   rw [hw0]; exact ⟨(Below.refl _ _).alloc (Nat.le_refl _) _,RB.new _ _ _ _,by simp⟩
 have HC : Hid (Calls Tryz.prog 8 #[.int .i64 q, .int .i64 n] w0 fun x w' => x = .returned (.tuple #[.slice none 0 0, .int .i64 e]) ∧ Below w0.heap.size w0 w') := hC w0 HW.out.1
 have hne : (e != 0) = true := by rw [bne_iff_ne]; exact h0
 clear hC h0
 go_enter Tryz.func19,Tryz.ntmps19
 go_wp2_with fail
 rw [← hw0]
 clear hw0
 refine HC.out.mono ?_
 rintro x w1 ⟨rfl,hb1⟩
 have H1 : Hid (Below w.heap.size w w1 ∧ RB w.heap.size w1) := ⟨bel_up' HW.out.1 hb1,HW.out.2.1.keep hb1⟩
 clear hb1 HW HC
 obtain ⟨⟨x0,c0⟩,⟨x1,c1⟩,⟨x2,c2⟩,f0,f1,f2⟩ := H1.out.2
 go_wp2
 obtain ⟨w12,hw12⟩ : ∃ w12,w12 = laid w1 w.heap.size 0 0 (.slice none 0 0) := ⟨_,rfl⟩
 have H12 : Hid (CB w.heap.size 0 0 (.slice none 0 0) w12 ∧ Below w.heap.size w w12) := by
   rw [hw12]; exact ⟨laid_cb H1.out.2 _ _ _,laid_below H1.out.1 (Nat.le_refl _) _ _ _⟩
 unfold laid at hw12
 rw [← hw12]
 clear hw12 c0 c1 c2 f0 f1 f2
 obtain ⟨c0,c1,c2⟩ := H12.out.1
 refine bodyPost_ret (v := .tuple #[.agg #[.int .i64 0, .int .i64 0, .slice none 0 0], .int .i64 e]) (by simp [results,Tryz.results19,go_sem,c0,c1,c2]) rfl ?_
 exact ⟨rfl,H12.out.2⟩
set_option maxHeartbeats 8000000 in
set_option maxRecDepth 100000 in
theorem rbch_e2 {q n f m : Int} {w : World} {P : Value → World → Prop} (h : f < 0 ∨ n ≤ f)
   (hC : ∀ wx,Below w.heap.size w wx → Calls Tryz.prog 8 #[.int .i64 q, .int .i64 n] wx fun x w' => ∃ v,x = .returned (.tuple #[v, .int .i64 0]) ∧ P v w' ∧ Below wx.heap.size wx w') :
   Calls Tryz.prog 19 #[.int .i64 q, .int .i64 n, .int .i64 f, .int .i64 m] w (CEr 10 w) := by
 obtain ⟨w0,hw0⟩ : ∃ w0,w0 = w.alloc (.cells #[.int .i64 0, .int .i64 0, .slice none 0 0] 35) := ⟨_,rfl⟩
 have HW : Hid (Below w.heap.size w w0 ∧ RB w.heap.size w0 ∧ w0.heap.size = w.heap.size + 1) := by
   rw [hw0]; exact ⟨(Below.refl _ _).alloc (Nat.le_refl _) _,RB.new _ _ _ _,by simp⟩
 have HC : Hid (Calls Tryz.prog 8 #[.int .i64 q, .int .i64 n] w0 fun x w' => ∃ v,x = .returned (.tuple #[v, .int .i64 0]) ∧ P v w' ∧ Below w0.heap.size w0 w') := hC w0 HW.out.1
 clear hC
 go_enter Tryz.func19,Tryz.ntmps19
 go_wp2_with fail
 rw [← hw0]
 clear hw0
 refine HC.out.mono ?_
 rintro x w1 ⟨v,rfl,_,hb1⟩
 have H1 : Hid (Below w.heap.size w w1 ∧ RB w.heap.size w1) := ⟨bel_up' HW.out.1 hb1,HW.out.2.1.keep hb1⟩
 clear hb1 HW HC
 by_cases h1 : f < 0
 · clear h
   obtain ⟨⟨x0,c0⟩,⟨x1,c1⟩,⟨x2,c2⟩,f0,f1,f2⟩ := H1.out.2
   go_wp2
   obtain ⟨w12,hw12⟩ : ∃ w12,w12 = laid w1 w.heap.size 0 0 (.slice none 0 0) := ⟨_,rfl⟩
   have H12 : Hid (CB w.heap.size 0 0 (.slice none 0 0) w12 ∧ Below w.heap.size w w12) := by
     rw [hw12]; exact ⟨laid_cb H1.out.2 _ _ _,laid_below H1.out.1 (Nat.le_refl _) _ _ _⟩
   unfold laid at hw12
   rw [← hw12]
   clear hw12 c0 c1 c2 f0 f1 f2
   obtain ⟨c0,c1,c2⟩ := H12.out.1
   refine bodyPost_ret (v := .tuple #[.agg #[.int .i64 0, .int .i64 0, .slice none 0 0], .int .i64 10]) (by simp [results,Tryz.results19,go_sem,c0,c1,c2]) rfl ?_
   exact ⟨rfl,H12.out.2⟩
 · have h2 : n ≤ f := by omega
   have h3 : f ≥ n := h2
   clear h
   obtain ⟨⟨x0,c0⟩,⟨x1,c1⟩,⟨x2,c2⟩,f0,f1,f2⟩ := H1.out.2
   go_wp2
   obtain ⟨w12,hw12⟩ : ∃ w12,w12 = laid w1 w.heap.size 0 0 (.slice none 0 0) := ⟨_,rfl⟩
   have H12 : Hid (CB w.heap.size 0 0 (.slice none 0 0) w12 ∧ Below w.heap.size w w12) := by
     rw [hw12]; exact ⟨laid_cb H1.out.2 _ _ _,laid_below H1.out.1 (Nat.le_refl _) _ _ _⟩
   unfold laid at hw12
   rw [← hw12]
   clear hw12 c0 c1 c2 f0 f1 f2
   obtain ⟨c0,c1,c2⟩ := H12.out.1
   refine bodyPost_ret (v := .tuple #[.agg #[.int .i64 0, .int .i64 0, .slice none 0 0], .int .i64 10]) (by simp [results,Tryz.results19,go_sem,c0,c1,c2]) rfl ?_
   exact ⟨rfl,H12.out.2⟩
set_option maxHeartbeats 8000000 in
set_option maxRecDepth 100000 in
theorem rbch_e3 {q n f m : Int} {w : World} {P : Value → World → Prop} (hf0 : 0 ≤ f) (hf1 : f < n) (h : m < 0 ∨ n ≤ m)
   (hC : ∀ wx,Below w.heap.size w wx → Calls Tryz.prog 8 #[.int .i64 q, .int .i64 n] wx fun x w' => ∃ v,x = .returned (.tuple #[v, .int .i64 0]) ∧ P v w' ∧ Below wx.heap.size wx w') :
   Calls Tryz.prog 19 #[.int .i64 q, .int .i64 n, .int .i64 f, .int .i64 m] w (CEr 6 w) := by
 obtain ⟨w0,hw0⟩ : ∃ w0,w0 = w.alloc (.cells #[.int .i64 0, .int .i64 0, .slice none 0 0] 35) := ⟨_,rfl⟩
 have HW : Hid (Below w.heap.size w w0 ∧ RB w.heap.size w0 ∧ w0.heap.size = w.heap.size + 1) := by
   rw [hw0]; exact ⟨(Below.refl _ _).alloc (Nat.le_refl _) _,RB.new _ _ _ _,by simp⟩
 have HC : Hid (Calls Tryz.prog 8 #[.int .i64 q, .int .i64 n] w0 fun x w' => ∃ v,x = .returned (.tuple #[v, .int .i64 0]) ∧ P v w' ∧ Below w0.heap.size w0 w') := hC w0 HW.out.1
 have hf2 : ¬ f < 0 := by omega
 have hf3 : ¬ n ≤ f := by omega
 have hf4 : ¬ f ≥ n := by omega
 clear hf0 hf1
 clear hC
 go_enter Tryz.func19,Tryz.ntmps19
 go_wp2_with fail
 rw [← hw0]
 clear hw0
 refine HC.out.mono ?_
 rintro x w1 ⟨v,rfl,_,hb1⟩
 have H1 : Hid (Below w.heap.size w w1 ∧ RB w.heap.size w1) := ⟨bel_up' HW.out.1 hb1,HW.out.2.1.keep hb1⟩
 clear hb1 HW HC
 by_cases h1 : m < 0
 · clear h
   obtain ⟨⟨x0,c0⟩,⟨x1,c1⟩,⟨x2,c2⟩,f0,f1,f2⟩ := H1.out.2
   go_wp2
   obtain ⟨w12,hw12⟩ : ∃ w12,w12 = laid w1 w.heap.size 0 0 (.slice none 0 0) := ⟨_,rfl⟩
   have H12 : Hid (CB w.heap.size 0 0 (.slice none 0 0) w12 ∧ Below w.heap.size w w12) := by
     rw [hw12]; exact ⟨laid_cb H1.out.2 _ _ _,laid_below H1.out.1 (Nat.le_refl _) _ _ _⟩
   unfold laid at hw12
   rw [← hw12]
   clear hw12 c0 c1 c2 f0 f1 f2
   obtain ⟨c0,c1,c2⟩ := H12.out.1
   refine bodyPost_ret (v := .tuple #[.agg #[.int .i64 0, .int .i64 0, .slice none 0 0], .int .i64 6]) (by simp [results,Tryz.results19,go_sem,c0,c1,c2]) rfl ?_
   exact ⟨rfl,H12.out.2⟩
 · have h2 : n ≤ m := by omega
   have h3 : m ≥ n := h2
   clear h
   obtain ⟨⟨x0,c0⟩,⟨x1,c1⟩,⟨x2,c2⟩,f0,f1,f2⟩ := H1.out.2
   go_wp2
   obtain ⟨w12,hw12⟩ : ∃ w12,w12 = laid w1 w.heap.size 0 0 (.slice none 0 0) := ⟨_,rfl⟩
   have H12 : Hid (CB w.heap.size 0 0 (.slice none 0 0) w12 ∧ Below w.heap.size w w12) := by
     rw [hw12]; exact ⟨laid_cb H1.out.2 _ _ _,laid_below H1.out.1 (Nat.le_refl _) _ _ _⟩
   unfold laid at hw12
   rw [← hw12]
   clear hw12 c0 c1 c2 f0 f1 f2
   obtain ⟨c0,c1,c2⟩ := H12.out.1
   refine bodyPost_ret (v := .tuple #[.agg #[.int .i64 0, .int .i64 0, .slice none 0 0], .int .i64 6]) (by simp [results,Tryz.results19,go_sem,c0,c1,c2]) rfl ?_
   exact ⟨rfl,H12.out.2⟩
set_option maxHeartbeats 8000000 in
set_option maxRecDepth 100000 in
theorem rbch_z {q n nn f m : Nat} (hn1 : 1 ≤ n) (hn64 : n ≤ 64) (hf : f < n) (hm : m < n) {S : Int} {qq : Int} {P : Value → World → Prop} {K : Nat → (Nat → Nat → Nat) → Prop} {w : World}
   (hC : ∀ wx,Below w.heap.size w wx → Calls Tryz.prog 8 #[.int .i64 (q : Nat), .int .i64 (n : Nat)] wx fun x w' => ∃ v,x = .returned (.tuple #[v, .int .i64 0]) ∧ P v w' ∧ Below wx.heap.size wx w')
   (hG : ∀ wx zo zc,w.heap.size < wx.heap.size → SlZ zo m (fun i => ((bzrow n f i : Nat) : Int)) wx → LtB zo wx.heap.size → Calls Tryz.prog 11 #[.int .i64 (q : Nat), .int .i64 (n : Nat), .slice zo m zc] wx fun x w' => ((S ≠ 0 ∧ x = .returned (.tuple #[.slice none 0 0, .int .i64 S])) ∨ (S = 0 ∧ ∃ ao N ca,x = .returned (.tuple #[.slice ao N ca, .int .i64 0]) ∧ ∀ wy,Below w'.heap.size w' wy → Calls Tryz.prog 17 #[.int .i64 (q : Nat), .int .i64 (n : Nat), .slice ao N ca] wy fun x w'' => ∃ qa na o k cc,x = .returned (.tuple #[.agg #[.int .i64 qa, .int .i64 na, .slice o k cc], .int .i64 0]) ∧ ToldR 0 qq nn wy.heap.size K qa na o k cc w'' ∧ Below wy.heap.size wy w'')) ∧ Below wx.heap.size wx w') :
   Calls Tryz.prog 19 #[.int .i64 (q : Nat), .int .i64 (n : Nat), .int .i64 (f : Nat), .int .i64 (m : Nat)] w fun x w' => ∃ qa na o k cc,x = .returned (.tuple #[.agg #[.int .i64 qa, .int .i64 na, .slice o k cc], .int .i64 S]) ∧ ToldR S qq nn w.heap.size K qa na o k cc w' ∧ Below w.heap.size w w' := by
 obtain ⟨w0,hw0⟩ : ∃ w0,w0 = w.alloc (.cells #[.int .i64 0, .int .i64 0, .slice none 0 0] 35) := ⟨_,rfl⟩
 have HW0 : Hid (Below w.heap.size w w0 ∧ RB w.heap.size w0 ∧ RBt w.heap.size w0 ∧ w0.heap.size = w.heap.size + 1) := by
   rw [hw0]; exact ⟨(Below.refl _ _).alloc (Nat.le_refl _) _,RB.new _ _ _ _,RBt.new _ _,by simp⟩
 have HC : Hid (Calls Tryz.prog 8 #[.int .i64 (q : Nat), .int .i64 (n : Nat)] w0 fun x w' => ∃ v,x = .returned (.tuple #[v, .int .i64 0]) ∧ P v w' ∧ Below w0.heap.size w0 w') := hC w0 HW0.out.1
 have HGen : Hid (∀ wx zo zc,w.heap.size < wx.heap.size → SlZ zo m (fun i => ((bzrow n f i : Nat) : Int)) wx → LtB zo wx.heap.size → Calls Tryz.prog 11 #[.int .i64 (q : Nat), .int .i64 (n : Nat), .slice zo m zc] wx fun x w' => ((S ≠ 0 ∧ x = .returned (.tuple #[.slice none 0 0, .int .i64 S])) ∨ (S = 0 ∧ ∃ ao N ca,x = .returned (.tuple #[.slice ao N ca, .int .i64 0]) ∧ ∀ wy,Below w'.heap.size w' wy → Calls Tryz.prog 17 #[.int .i64 (q : Nat), .int .i64 (n : Nat), .slice ao N ca] wy fun x w'' => ∃ qa na o k cc,x = .returned (.tuple #[.agg #[.int .i64 qa, .int .i64 na, .slice o k cc], .int .i64 0]) ∧ ToldR 0 qq nn wy.heap.size K qa na o k cc w'' ∧ Below wy.heap.size wy w'')) ∧ Below wx.heap.size wx w') := hG
 have hf1 : ¬ (f : Int) < 0 := by omega
 have hf2 : ¬ (f : Int) ≥ (n : Int) := by omega
 have hf3 : ¬ (n : Int) ≤ (f : Int) := by omega
 have hm1 : ¬ (m : Int) < 0 := by omega
 have hm2 : ¬ (m : Int) ≥ (n : Int) := by omega
 have hm3 : ¬ (n : Int) ≤ (m : Int) := by omega
 clear hC hG
 go_enter Tryz.func19,Tryz.ntmps19
 go_wp2_with fail
 rw [← hw0]
 clear hw0
 refine HC.out.mono ?_
 rintro x w1 ⟨v,rfl,_,hb1⟩
 have HW : Hid (Below w.heap.size w w1 ∧ RB w.heap.size w1 ∧ RBt w.heap.size w1 ∧ w.heap.size < w1.heap.size) := ⟨bel_up' HW0.out.1 hb1,HW0.out.2.1.keep hb1,HW0.out.2.2.1.keep hb1,by have := hb1.size; have := HW0.out.2.2.2; omega⟩
 clear hb1 HW0 HC
 go_wp2
 have hd1 : decide (n ≤ m) = false := decide_eq_false (by omega)
 have hd2 : decide ((f : Int) < 0) = false := decide_eq_false (by omega)
 have hd3 : decide ((m : Int) < 0) = false := decide_eq_false (by omega)
 simp only [hd1,hd2,hd3,Bool.or_self]
 clear hd1 hd2 hd3
 go_loopw [12,13] (fun vl vi wr => ∃ r : Nat,r ≤ m ∧ vi = .int .i64 (r : Nat) ∧ Hid (OwnI w1.heap.size vl (zl r fun i => ((bzrow n f i : Nat) : Int)) wr ∧ Below w1.heap.size w1 wr)) (fun _ vi _ => m - (intOf vi).toNat)
 case atStart => exact ⟨0,by omega,rfl,OwnI.nil _ _,Below.refl _ _⟩
 case round =>
   obtain ⟨r,hr,rfl,HI⟩ := hrel
   rename World => wr
   have hsz := HI.out.2.size
   by_cases hlt : r < m
   · have hib : (r : Int) < (m : Int) := by omega
     obtain ⟨u,hu⟩ : ∃ u,u = f + r := ⟨_,rfl⟩
     have hui : (f : Int) + (r : Int) = (u : Int) := by omega
     have huw : IntKind.i64.wrap (u : Int) = (u : Int) := wrap_to rfl (by omega)
     obtain ⟨y,hy⟩ : ∃ y,y = u % n := ⟨_,rfl⟩
     have hrm : (u : Int).tmod (n : Int) = (y : Int) := by rw [Int.tmod_eq_emod_of_nonneg (by omega),hy]; omega
     have hre : (u : Int) % (n : Int) = (y : Int) := by rw [hy]; omega
     have hn0 : ¬ (n : Int) = 0 := by omega
     have hn0b : ((n : Int) == 0) = false := by rw [beq_eq_false_iff_ne]; omega
     have HX : Hid (y = bzrow n f r) := by show _ = _; rw [hy,hu]; rfl
     have hrb : r ≤ 64 := by omega
     clear hu hy
     go_wp2_with (first
       | (at_builtin; refine append_int rfl _ _ rfl w1.heap.size _ (zl r fun i => ((bzrow n f i : Nat) : Int)) rfl (HI.out.1.alloc _) ⟨_,0,none⟩ 1 (y : Nat) rfl (by simp) (by rw [zl_len]; omega) (by simp; omega) ?_; intro v2 w3 hown3 hgrow3))
     have HN : Hid (OwnI w1.heap.size v2 (zl (r + 1) fun i => ((bzrow n f i : Nat) : Int)) w3 ∧ Below w1.heap.size w1 w3) := by
       refine ⟨?_,(HI.out.2.alloc hsz _).grown hgrow3 (by simp; omega) (fun k hk => (HI.out.1.lt k hk).1)⟩
       rw [zl_succ, ← HX.out]; exact hown3
     clear hown3 hgrow3
     go_roundw
     case rel => exact ⟨r + 1,by omega,by go_num,HN.out⟩
     case measure => simp [intOf]; omega
   · have hib : ¬ (r : Int) < (m : Int) := by omega
     have hre2 : r = m := by omega
     subst hre2
     obtain ⟨zo,zc,hv,hA⟩ := HI.out.1.argL
     subst hv
     have HB : Hid (Below w1.heap.size w1 wr) := HI.out.2
     have hszr : w.heap.size < wr.heap.size := by have := HW.out.2.2.2; omega
     have HGn : Hid (Calls Tryz.prog 11 #[.int .i64 (q : Nat), .int .i64 (n : Nat), .slice zo r zc] wr fun x w' => ((S ≠ 0 ∧ x = .returned (.tuple #[.slice none 0 0, .int .i64 S])) ∨ (S = 0 ∧ ∃ ao N ca,x = .returned (.tuple #[.slice ao N ca, .int .i64 0]) ∧ ∀ wy,Below w'.heap.size w' wy → Calls Tryz.prog 17 #[.int .i64 (q : Nat), .int .i64 (n : Nat), .slice ao N ca] wy fun x w'' => ∃ qa na o k cc,x = .returned (.tuple #[.agg #[.int .i64 qa, .int .i64 na, .slice o k cc], .int .i64 0]) ∧ ToldR 0 qq nn wy.heap.size K qa na o k cc w'' ∧ Below wy.heap.size wy w'')) ∧ Below wr.heap.size wr w') := HGen.out wr zo zc hszr hA.sl hA.lt
     clear hA hszr HI
     go_wp2_with fail
     refine HGn.out.mono ?_
     rintro x w3 ⟨hres,hb3⟩
     have H3 : Hid (Below w.heap.size w w3 ∧ RB w.heap.size w3 ∧ RBt w.heap.size w3 ∧ w.heap.size < w3.heap.size) := by
       have hbb := bel_up' HB.out hb3
       exact ⟨bel_up' HW.out.1 hbb,HW.out.2.1.keep hbb,HW.out.2.2.1.keep hbb,by have := hbb.size; have := HW.out.2.2.2; omega⟩
     clear hb3 HGn
     rcases hres with ⟨hS,rfl⟩ | ⟨hS,ao,N,ca,rfl,hOf⟩
     · have hne : (S != 0) = true := by rw [bne_iff_ne]; exact hS
       have HS : Hid (S ≠ 0) := hS
       clear hS
       obtain ⟨⟨x0,c0⟩,⟨x1,c1⟩,⟨x2,c2⟩,f0,f1,f2⟩ := H3.out.2.1
       go_wp2
       obtain ⟨w12,hw12⟩ : ∃ w12,w12 = laid w3 w.heap.size 0 0 (.slice none 0 0) := ⟨_,rfl⟩
       have H12 : Hid (CB w.heap.size 0 0 (.slice none 0 0) w12 ∧ Below w.heap.size w w12) := by
         rw [hw12]; exact ⟨laid_cb H3.out.2.1 _ _ _,laid_below H3.out.1 (Nat.le_refl _) _ _ _⟩
       unfold laid at hw12
       rw [← hw12]
       clear hw12 c0 c1 c2 f0 f1 f2
       obtain ⟨c0,c1,c2⟩ := H12.out.1
       refine bodyPost_ret (v := .tuple #[.agg #[.int .i64 0, .int .i64 0, .slice none 0 0], .int .i64 S]) (by simp [results,Tryz.results19,go_sem,c0,c1,c2]) rfl ?_
       exact ⟨0,0,none,0,0,rfl,fun e => absurd e HS.out,H12.out.2⟩
     · have HOf : Hid (Calls Tryz.prog 17 #[.int .i64 (q : Nat), .int .i64 (n : Nat), .slice ao N ca] w3 fun x w'' => ∃ qa na o k cc,x = .returned (.tuple #[.agg #[.int .i64 qa, .int .i64 na, .slice o k cc], .int .i64 0]) ∧ ToldR 0 qq nn w3.heap.size K qa na o k cc w'' ∧ Below w3.heap.size w3 w'') := hOf w3 (Below.refl _ _)
       have HS : Hid (S = 0) := hS
       clear hOf hS
       go_wp2_with fail
       refine HOf.out.mono ?_
       rintro x w4 ⟨qa,na,o,k,cc,rfl,hT,hb4⟩
       have H4 : Hid (ToldR 0 qq nn w3.heap.size K qa na o k cc w4 ∧ Below w.heap.size w w4 ∧ RB w.heap.size w4 ∧ RBt w.heap.size w4 ∧ w.heap.size ≤ w3.heap.size) := ⟨hT,bel_up' H3.out.1 hb4,H3.out.2.1.keep hb4,H3.out.2.2.1.keep hb4,Nat.le_of_lt H3.out.2.2.2⟩
       clear hT hb4 HOf
       obtain ⟨⟨x0,c0⟩,⟨x1,c1⟩,⟨x2,c2⟩,f0,f1,f2⟩ := H4.out.2.2.1
       go_wp2
       obtain ⟨w12,hw12⟩ : ∃ w12,w12 = laid w4 w.heap.size qa na (.slice o k cc) := ⟨_,rfl⟩
       have H12 : Hid (CB w.heap.size qa na (.slice o k cc) w12 ∧ ToldR 0 qq nn w.heap.size K qa na o k cc w12 ∧ Below w.heap.size w w12) := by
         rw [hw12]
         refine ⟨laid_cb H4.out.2.2.1 _ _ _,fun e => ?_,laid_below H4.out.2.1 (Nat.le_refl _) _ _ _⟩
         obtain ⟨h1,h2,h3,R,h4,h5⟩ := (H4.out.1.laid H4.out.2.2.2.1 qa na (.slice o k cc)) e
         exact ⟨h1,h2,h3,R,h4.mono H4.out.2.2.2.2,h5⟩
       unfold laid at hw12
       rw [← hw12]
       clear hw12 c0 c1 c2 f0 f1 f2
       obtain ⟨c0,c1,c2⟩ := H12.out.1
       refine bodyPost_ret (v := .tuple #[.agg #[.int .i64 qa, .int .i64 na, .slice o k cc], .int .i64 0]) (by simp [results,Tryz.results19,go_sem,c0,c1,c2]) rfl ?_
       rw [HS.out]
       exact ⟨_,_,_,_,_,rfl,H12.out.2⟩
end Go.Proofs.YtppggchhkckobaaGreat
