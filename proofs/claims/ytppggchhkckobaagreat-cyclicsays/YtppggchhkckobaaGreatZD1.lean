/- Texts of ours, one behind the other: D1 R1 R2 R3 W3. -/
import Derived.Test.YtppggchhkckobaaGreatZM3
import Derived.Test.YtppggchhkckobaaGreatZA1
import Derived.RegionTactic
import Derived.BigRegion
import Derived.Laws.MakeOwn
namespace Go.Proofs.YtppggchhkckobaaGreat
open Go.RowKit
theorem addZ_nat {D : FD} (_F : Fld D) {x y : Nat} (hx : x < D.q) (hy : y < D.q) : D.addZ x y = (sumD D.p D.q x y : Nat) := by
 rw [FD.addZ,if_pos ⟨nat_has hx,nat_has hy⟩]; rfl
theorem mulZ_nat {D : FD} (_F : Fld D) {x y : Nat} (hx : x < D.q) (hy : y < D.q) : D.mulZ x y = (D.mul x y : Nat) := by
 rw [FD.mulZ,if_pos ⟨nat_has hx,nat_has hy⟩]; rfl
theorem negZ_nat {D : FD} (_F : Fld D) {x : Nat} (hx : x < D.q) : D.negZ x = (negD D.p D.q x : Nat) := by
 rw [FD.negZ,if_pos (nat_has hx)]; rfl
theorem ne_false {a b : Int} (h : a = b) : (a != b) = false := by rw [h]; simp
theorem st_one : fieldsL.all (fun D => D.st 1 == D.gen && decide (D.gen < D.q) && decide (D.gen ≠ 0)) = true := by decide +kernel
theorem t1 {D : FD} (hD : D ∈ fieldsL) {x y : Nat} (hx : x < D.q) (hy : y < D.q) : (D.addZ x y != D.addZ y x) = false := by
 have F := fld hD
 exact ne_false (by rw [addZ_nat F hx hy,addZ_nat F hy hx,F.add_comm])
theorem t2 {D : FD} (hD : D ∈ fieldsL) {x y : Nat} (hx : x < D.q) (hy : y < D.q) : (D.mulZ x y != D.mulZ y x) = false := by
 have F := fld hD
 exact ne_false (by rw [mulZ_nat F hx hy,mulZ_nat F hy hx,F.mul_comm])
theorem t9 {D : FD} (hD : D ∈ fieldsL) {x y : Nat} (hx : x < D.q) (hy : y < D.q) : (D.subZ (D.addZ x y) y != (x : Int)) = false := by
 have F := fld hD
 refine ne_false ?_
 rw [FD.subZ,addZ_nat F hx hy,negZ_nat F hy,addZ_nat F (F.sum_lt x y hx hy) (F.neg_lt y hy),F.add_assoc x y _ hx hy (F.neg_lt y hy),F.sum_neg y hy,F.sum_zero x hx]
theorem t3 {D : FD} (hD : D ∈ fieldsL) {x y z : Nat} (hx : x < D.q) (hy : y < D.q) (hz : z < D.q) : (D.addZ (D.addZ x y) z != D.addZ x (D.addZ y z)) = false := by
 have F := fld hD
 refine ne_false ?_
 rw [addZ_nat F hx hy,addZ_nat F hy hz,addZ_nat F (F.sum_lt x y hx hy) hz,addZ_nat F hx (F.sum_lt y z hy hz),F.add_assoc x y z hx hy hz]
theorem t4 {D : FD} (hD : D ∈ fieldsL) {x y z : Nat} (hx : x < D.q) (hy : y < D.q) (hz : z < D.q) : (D.mulZ (D.mulZ x y) z != D.mulZ x (D.mulZ y z)) = false := by
 have F := fld hD
 refine ne_false ?_
 rw [mulZ_nat F hx hy,mulZ_nat F hy hz,mulZ_nat F (F.mul_lt x y) hz,mulZ_nat F hx (F.mul_lt y z),F.mul_assoc]
theorem t5 {D : FD} (hD : D ∈ fieldsL) {x y z : Nat} (hx : x < D.q) (hy : y < D.q) (hz : z < D.q) : (D.mulZ x (D.addZ y z) != D.addZ (D.mulZ x y) (D.mulZ x z)) = false := by
 have F := fld hD
 refine ne_false ?_
 rw [addZ_nat F hy hz,mulZ_nat F hx (F.sum_lt y z hy hz),mulZ_nat F hx hy,mulZ_nat F hx hz,addZ_nat F (F.mul_lt x y) (F.mul_lt x z),F.distrib x y z hy hz]
theorem inv_zero {D : FD} {x : Nat} (hx : x < D.q) (h0 : x = 0) : D.powZ x (-1) = -1 := by
 rw [FD.powZ,if_neg (by simp [nat_has hx]),if_neg (by omega),if_pos (by omega),if_pos (by omega)]
theorem inv_nat {D : FD} (hD : D ∈ fieldsL) {x : Nat} (hx : x < D.q) (h0 : x ≠ 0) : D.powZ x (-1) = (D.pw x (D.q - 2) : Nat) := by
 have F := fld hD
 have h2 := F.q2
 rw [FD.powZ,if_neg (by simp [nat_has hx]),if_neg (by omega),if_neg (by omega)]
 have : ((-1 : Int) % ((D.q - 1 : Nat) : Int)).toNat = (D.q - 2) := by
   have e : (-1 : Int) = ((D.q - 2 : Nat) : Int) + (-1) * ((D.q - 1 : Nat) : Int) := by omega
   rw [e,Int.add_mul_emod_self_right, ← Int.natCast_emod,Int.toNat_natCast]
   exact Nat.mod_eq_of_lt (by omega)
 rw [this]; rfl
theorem pw_lt {D : FD} (hD : D ∈ fieldsL) (x : Nat) (k : Nat) : D.pw x k < D.q := by
 have F := fld hD
 exact F.pow_lt _ (Nat.mod_lt _ (by have := F.q2; omega))
theorem pw_ne {D : FD} (hD : D ∈ fieldsL) (x : Nat) (k : Nat) : D.pw x k ≠ 0 ∧ D.lg (D.pw x k) = D.lg x * k % (D.q - 1) := by
 have F := fld hD
 have hn : D.lg x * k % (D.q - 1) < D.q - 1 := Nat.mod_lt _ (by have := F.q2; omega)
 exact ⟨(F.full _ hn).1,F.lg_pow _ hn⟩
theorem t11 {D : FD} (hD : D ∈ fieldsL) {x : Nat} (hx : x < D.q) (h0 : x ≠ 0) : D.mulZ x (D.powZ x (-1)) = 1 := by
 have F := fld hD
 have h2 := F.q2
 have hp := pw_ne hD x (D.q - 2)
 rw [inv_nat hD hx h0,mulZ_nat F hx (pw_lt hD _ _),FD.mul,if_neg (by omega),hp.2,Nat.add_mod_mod,show D.lg x + D.lg x * (D.q - 2) = D.lg x * (D.q - 1) from by
   rw [show D.q - 1 = (D.q - 2) + 1 from by omega,Nat.mul_add,Nat.mul_one]; omega,Nat.mul_mod_left]
 rfl
def dg (p a j : Nat) : Nat := a / p ^ j % p
def digL (p a m : Nat) : List Int := (List.range m).map fun j => ((dg p a j : Nat) : Int)
theorem digL_succ (p a m : Nat) : digL p a (m + 1) = digL p a m ++ [((dg p a m : Nat) : Int)] := by
 unfold digL; rw [List.range_succ,List.map_append]; rfl
theorem digL_len (p a m : Nat) : (digL p a m).length = m := by simp [digL]
theorem digL_get (p a m j : Nat) (h : j < m) : (digL p a m).getD j 0 = ((dg p a j : Nat) : Int) := by
 rw [List.getD_eq_getElem?_getD,List.getElem?_eq_getElem (by rw [digL_len]; exact h)]
 simp [digL]
set_option maxHeartbeats 2000000 in
theorem digits_any (a p m : Nat) (w : World) (ha : a ≤ 1000000) (hp : 1 ≤ p) (hp2 : p ≤ 64) (hm : m ≤ 1000) :
   Calls Tryz.prog 77 #[.int .i64 a, .int .i64 p, .int .i64 m] w fun e w' => ∃ v,e = .returned v ∧ OwnI w.heap.size v (digL p a m) w' ∧ Below w.heap.size w w' := by
 go_enter Tryz.func77,Tryz.ntmps77
 go_wp2
 go_loopw [0,7,8] (fun x v i wr => ∃ j y : Nat,j ≤ m ∧ y ≤ a ∧ x = .int .i64 y ∧ i = .int .i64 j ∧ Hid (y = a / p ^ j) ∧ OwnI w.heap.size v (digL p a j) wr ∧ Below w.heap.size w wr) (fun _ _ i _ => m - (intOf i).toNat)
 case atStart => exact ⟨0,a,by omega,by omega,rfl,rfl,by simp [Hid],OwnI.nil _ _,Below.refl _ _⟩
 case round =>
   obtain ⟨j,y,hj,hy,rfl,rfl,HY,hown,hbel⟩ := hrel
   have hsz := hbel.size
   have hlen := digL_len p a j
   by_cases hlt : j < m
   · have hq1 : y / p ≤ y := Nat.div_le_self _ _
     have hq2 : y % p < p := Nat.mod_lt _ (by omega)
     have HL : Hid (digL p a (j + 1) = digL p a j ++ [((y % p : Nat) : Int)]) := by
       show _ = _
       rw [digL_succ,HY.out]; rfl
     have HN : Hid (y / p = a / p ^ (j + 1)) := by
       show _ = _
       rw [HY.out,Nat.div_div_eq_div_mul,Nat.pow_succ]
     go_wp2_with (at_builtin; refine append_int rfl _ _ rfl w.heap.size _ (digL p a j) rfl (hown.alloc _) ⟨_,0,none⟩ 1 (((y % p : Nat) : Int)) rfl (by simp) (by omega) (by simp; omega) ?_; intro v' w1 hown' hgrow')
     go_roundw
     case rel => exact ⟨j + 1,y / p,by omega,by omega,by rw [w_quo y p (by omega)],by go_num,HN.out,by rw [HL.out]; exact hown',(hbel.alloc (by omega) _).grown hgrow' (by simp; omega) (fun k hk => (hown.lt k hk).1)⟩
     case measure => simp [intOf]; omega
   · have e : j = m := by omega
     have HO : Hid (OwnI w.heap.size u7 (digL p a m) wr) := by rw [← e]; exact hown
     go_wp2
     go_ret
     exact ⟨_,rfl,HO.out,hbel⟩
def horner (p : Nat) (f : Nat → Nat) (n : Nat) : Nat → Nat
 | 0 => 0
 | k + 1 => horner p f n k * p + f (n - 1 - k)
theorem horner_lt (p : Nat) (f : Nat → Nat) (n : Nat) (hp : p ≤ 64) (hf : ∀ j,f j < 64) : ∀ k,horner p f n k < 64 ^ k
 | 0 => by simp [horner]
 | k + 1 => by
   have h1 := horner_lt p f n hp hf k
   have h2 := hf (n - 1 - k)
   rw [horner,Nat.pow_succ]
   have h3 : horner p f n k * p ≤ horner p f n k * 64 := Nat.mul_le_mul_left _ hp
   have : (horner p f n k + 1) * 64 ≤ 64 ^ k * 64 := Nat.mul_le_mul_right 64 h1
   rw [Nat.add_mul,Nat.one_mul] at this
   omega
set_option maxHeartbeats 2000000 in
theorem number_gen (g cap p n : Nat) (f : Nat → Nat) (w : World) (hp2 : p ≤ 64) (hn : n ≤ 6) (hf : ∀ j, f j < 64)
   (hc : ∀ j,j < n → w.cell? ⟨g,j,none⟩ = some (.int .i64 (f j : Nat))) :
   Calls Tryz.prog 91 #[.slice (some ⟨g,0,none⟩) n cap, .int .i64 p] w fun e w' => e = .returned (.int .i64 (horner p f n n : Nat)) ∧ w' = w := by
 have HC : Hid (∀ j,j < n → w.cell? ⟨g,j,none⟩ = some (.int .i64 (f j : Nat))) := hc
 have HL : Hid (∀ k,k ≤ n → horner p f n k < 68719476736) := fun k hk => Nat.lt_of_lt_of_le (horner_lt p f n hp2 hf k) (Nat.le_trans (Nat.pow_le_pow_right (by omega) (Nat.le_trans hk hn)) (by decide))
 have HF : Hid (∀ j,f j < 64) := hf
 clear hc hf
 go_enter Tryz.func91,Tryz.ntmps91
 go_wp2
 go_loop [5,6] (fun a i => ∃ r : Nat,r ≤ n ∧ i = .int .i64 ((r : Int) - 1) ∧ a = .int .i64 (horner p f n (n - r) : Nat)) (fun _ i => (intOf i + 1).toNat)
 case atStart => exact ⟨n,by omega,rfl,by rw [Nat.sub_self]; rfl⟩
 case round =>
   obtain ⟨r,hr,hi,rfl⟩ := hrel
   have hb := HL.out (n - r) (by omega)
   cases r with
   | succ s =>
     have hi' : u6 = .int .i64 (s : Int) := by rw [hi]; go_num
     clear hi
     subst hi'
     have hcl : w.cell? ⟨g,s,none⟩ = some (.int .i64 (f s : Nat)) := HC.out _ (by omega)
     have hfl := HF.out s
     obtain ⟨x,hx⟩ : ∃ x,x = horner p f n (n - (s + 1)) := ⟨_,rfl⟩
     have HX : Hid (horner p f n (n - s) = x * p + f s) := by
       show _ = _
       rw [hx,show n - s = (n - (s + 1)) + 1 from by omega,horner,show n - 1 - (n - (s + 1)) = s from by omega]
     rw [← hx] at hb ⊢
     clear hx
     have hm : x * p ≤ 68719476736 * 64 := Nat.mul_le_mul (by omega) hp2
     have h4 : (x : Int) * (p : Int) ≤ 4398046511104 := by rw [← Int.natCast_mul]; omega
     have h5 : 0 ≤ (x : Int) * (p : Int) := by rw [← Int.natCast_mul]; omega
     go_wp2
     go_round
     case rel => exact ⟨s,by omega,by go_num,by rw [HX.out]; go_num⟩
     case measure => simp [intOf]
   | zero =>
     have hi' : u6 = .int .i64 (-1) := by rw [hi]; rfl
     clear hi
     subst hi'
     go_wp2
     go_ret
     exact ⟨rfl,rfl⟩
theorem number_any (g cap p n : Nat) (f : Nat → Nat) (w : World) (_hp : 1 ≤ p) (hp2 : p ≤ 64) (hn : n ≤ 6) (_hpn : p ^ n ≤ 4096) (hf : ∀ j, f j < p)
   (hc : ∀ j,j < n → w.cell? ⟨g,j,none⟩ = some (.int .i64 (f j : Nat))) :
   Calls Tryz.prog 91 #[.slice (some ⟨g,0,none⟩) n cap, .int .i64 p] w fun e w' => e = .returned (.int .i64 (horner p f n n : Nat)) ∧ w' = w :=
 number_gen g cap p n f w hp2 hn (fun j => Nat.lt_of_lt_of_le (hf j) hp2) hc
def rf (q p m gen : Nat) (v : Value) : Value := .agg #[.int .i64 q, .int .i64 p, .int .i64 m, .int .i64 gen,v]
def raddN (D : FD) (a b : Nat) : Nat := if D.m = 1 then (a + b) % D.p else if D.p = 2 then a ^^^ b else horner D.p (fun j => (dg D.p a j + dg D.p b j) % D.p) D.m D.m
def rnegN (D : FD) (a : Nat) : Nat := horner D.p (fun j => (D.p - dg D.p a j) % D.p) D.m D.m
def chkRAdd (D : FD) : Bool := allB D.q fun a => rnegN D a == negD D.p D.q a && allB D.q fun b => raddN D a b == sumD D.p D.q a b
theorem chkRAdd_all : fieldsL.all chkRAdd = true := by decide +kernel
theorem radd_is {D : FD} (h : D ∈ fieldsL) (a b : Nat) (ha : a < D.q) (hb : b < D.q) : raddN D a b = sumD D.p D.q a b := by
 have := allB_of (List.all_eq_true.1 chkRAdd_all D h) a ha
 rw [Bool.and_eq_true] at this
 exact beq_iff_eq.1 (allB_of this.2 b hb)
theorem rneg_is {D : FD} (h : D ∈ fieldsL) (a : Nat) (ha : a < D.q) : rnegN D a = negD D.p D.q a := by
 have := allB_of (List.all_eq_true.1 chkRAdd_all D h) a ha
 rw [Bool.and_eq_true] at this
 exact beq_iff_eq.1 this.1
theorem xor_small (a b : Nat) (ha : a < 64) (hb : b < 64) : bits .xor .i64 (a : Int) (b : Int) = ((a ^^^ b : Nat) : Int) := xor64_nat a b ha hb
theorem bcell {B : Nat} {W w1 : World} (hb : Below B W w1) : (∀ b o,b < B → w1.cell? ⟨b,o,none⟩ = W.cell? ⟨b,o,none⟩) ∧ (∀ b o,b < B → w1.frozen? ⟨b,o,none⟩ = W.frozen? ⟨b,o,none⟩) :=
 ⟨fun b o h => hb.cell (p := ⟨b,o,none⟩) h,fun b o h => hb.frozen (p := ⟨b,o,none⟩) h⟩
theorem rhas_any (D : FD) (gen : Nat) (v : Value) (a : Int) (w : World) :
   Calls Tryz.prog 89 #[rf D.q D.p D.m gen v, .int .i64 a] w fun e w' => e = .returned (.bool (D.has a)) ∧ Below w.heap.size w w' := by
 unfold rf
 by_cases h0 : 0 ≤ a
 · have HV : Hid (D.has a = decide (a < D.q)) := by show D.has a = _; simp [FD.has,h0]
   go_enter Tryz.func89,Tryz.ntmps89
   go_wp2
   go_ret
   exact ⟨ret_bool (by rw [HV.out]),(Below.refl _ _).alloc (Nat.le_refl _) _⟩
 · have HV : Hid (D.has a = false) := by show D.has a = _; simp [FD.has,h0]
   go_enter Tryz.func89,Tryz.ntmps89
   go_wp2
   go_ret
   exact ⟨ret_bool (by rw [HV.out]),(Below.refl _ _).alloc (Nat.le_refl _) _⟩
set_option maxHeartbeats 2000000 in
theorem radd_no {D : FD} (gen : Nat) (v : Value) (a b : Int) (w : World) (h : D.has a = false ∨ D.has b = false) :
   Calls Tryz.prog 61 #[rf D.q D.p D.m gen v, .int .i64 a, .int .i64 b] w fun e w' => e = .returned (.int .i64 (-1)) ∧ Below w.heap.size w w' := by
 by_cases ha : D.has a = true
 · have hb : D.has b = false := by rcases h with h | h; · rw [ha] at h; cases h
                                   · exact h
   clear h
   unfold rf
   go_enter Tryz.func61,Tryz.ntmps61
   go_wp2_with fail
   refine (rhas_any D gen v a _).mono ?_
   rintro e w1 ⟨rfl,hb1⟩
   obtain ⟨hc1,hf1⟩ := bcell hb1
   have HB1 : Hid (Below w.heap.size w w1) := ((Below.refl _ _).alloc (Nat.le_refl _) _).trans (hb1.mono (by simp))
   clear hb1
   go_wp2_with fail
   refine (rhas_any D gen v b _).mono ?_
   rintro e w2 ⟨rfl,hb2⟩
   have HB2 : Hid (Below w.heap.size w w2) := HB1.out.trans (hb2.mono HB1.out.size)
   clear hb2 hc1 hf1
   go_wp2
   go_ret
   exact ⟨rfl,HB2.out⟩
 · have ha' : D.has a = false := by simpa using ha
   clear h ha
   unfold rf
   go_enter Tryz.func61,Tryz.ntmps61
   go_wp2_with fail
   refine (rhas_any D gen v a _).mono ?_
   rintro e w1 ⟨rfl,hb1⟩
   have HB1 : Hid (Below w.heap.size w w1) := ((Below.refl _ _).alloc (Nat.le_refl _) _).trans (hb1.mono (by simp))
   clear hb1
   go_wp2
   go_ret
   exact ⟨rfl,HB1.out⟩
set_option maxHeartbeats 2000000 in
theorem radd_one {D : FD} (hm : D.m = 1) (hp : 1 ≤ D.p) (hp2 : D.p ≤ 64) (gen : Nat) (v : Value) (a b : Nat) (w : World) (ha : a < 64) (hb : b < 64) (h1 : D.has a = true) (h2 : D.has b = true) :
   Calls Tryz.prog 61 #[rf D.q D.p D.m gen v, .int .i64 a, .int .i64 b] w fun e w' => e = .returned (.int .i64 ((a + b) % D.p : Nat)) ∧ Below w.heap.size w w' := by
 have hm' : ((D.m : Int) == 1) = true := by rw [hm]; rfl
 clear hm
 unfold rf
 go_enter Tryz.func61,Tryz.ntmps61
 go_wp2_with fail
 refine (rhas_any D gen v a _).mono ?_
 rintro e w1 ⟨rfl,hb1⟩
 obtain ⟨hc1,hf1⟩ := bcell hb1
 have hs1 : w.heap.size < w1.heap.size := by have := hb1.size; simp at this; omega
 have HB1 : Hid (Below w.heap.size w w1) := ((Below.refl _ _).alloc (Nat.le_refl _) _).trans (hb1.mono (by simp))
 clear hb1
 go_wp2_with fail
 refine (rhas_any D gen v b _).mono ?_
 rintro e w2 ⟨rfl,hb2⟩
 obtain ⟨hc2,hf2⟩ := bcell hb2
 have HB2 : Hid (Below w.heap.size w w2) := HB1.out.trans (hb2.mono HB1.out.size)
 clear hb2
 go_wp2
 go_ret
 exact ⟨ret_int (by go_num),HB2.out⟩
set_option maxHeartbeats 2000000 in
theorem radd_two {D : FD} (hm : D.m ≠ 1) (hp : D.p = 2) (gen : Nat) (v : Value) (a b : Nat) (w : World) (ha : a < 64) (hb : b < 64) (h1 : D.has a = true) (h2 : D.has b = true) :
   Calls Tryz.prog 61 #[rf D.q D.p D.m gen v, .int .i64 a, .int .i64 b] w fun e w' => e = .returned (.int .i64 (a ^^^ b : Nat)) ∧ Below w.heap.size w w' := by
 have hm' : ((D.m : Int) == 1) = false := by rw [beq_eq_false_iff_ne]; omega
 have hp' : ((D.p : Int) == 2) = true := by rw [hp]; rfl
 clear hm hp
 unfold rf
 go_enter Tryz.func61,Tryz.ntmps61
 go_wp2_with fail
 refine (rhas_any D gen v a _).mono ?_
 rintro e w1 ⟨rfl,hb1⟩
 obtain ⟨hc1,hf1⟩ := bcell hb1
 have hs1 : w.heap.size < w1.heap.size := by have := hb1.size; simp at this; omega
 have HB1 : Hid (Below w.heap.size w w1) := ((Below.refl _ _).alloc (Nat.le_refl _) _).trans (hb1.mono (by simp))
 clear hb1
 go_wp2_with fail
 refine (rhas_any D gen v b _).mono ?_
 rintro e w2 ⟨rfl,hb2⟩
 obtain ⟨hc2,hf2⟩ := bcell hb2
 have HB2 : Hid (Below w.heap.size w w2) := HB1.out.trans (hb2.mono HB1.out.size)
 clear hb2
 go_wp2
 go_ret
 exact ⟨ret_int (xor_small a b ha hb),HB2.out⟩
theorem OwnI.row {base : Nat} {v : Value} {l : List Int} {w : World} (h : OwnI base v l w) (n : Nat) (hn : l.length = n) (h0 : 0 < n) : ∃ g cap f, v = .slice (some ⟨g, 0, none⟩) n cap ∧ base ≤ g ∧ g < w.heap.size ∧ n ≤ cap ∧ cap ≤ maxLen ∧
   RowF g cap 3 f w ∧ (∀ j,j < n → f j = .int .i64 (l.getD j 0)) := by
 have h' := h
 rcases h'.2 with ⟨_,h2⟩ | ⟨g,cap,cur,hv,hg,hh,hle,hcm,hsz,htake⟩
 · omega
 · refine ⟨g,cap,fun o => (cur[o]?).getD (.int .i64 0),by rw [hv,hn],hg,lt_of_block hh,by omega,hcm,⟨cur,hh,by omega,fun o ho => ?_⟩,fun j hj => ?_⟩
   · show _ = some (Option.getD _ _)
     rw [Array.getElem?_eq_getElem (by omega)]; rfl
   · have hj' : j < l.length := by omega
     have h3 : (cur.toList.take (l.length * 1))[j]? = (l.map (Value.int .i64))[j]? := by rw [htake]
     rw [List.getElem?_take,if_pos (by omega),List.getElem?_map,List.getElem?_eq_getElem hj'] at h3
     show (cur[j]?).getD _ = _
     rw [← Array.getElem?_toList,h3,List.getD_eq_getElem?_getD,List.getElem?_eq_getElem hj']; rfl
structure Box (b : Nat) (D : FD) (gen : Nat) (v : Value) (w : World) : Prop where
 c0 : w.cell? ⟨b,0,none⟩ = some (.int .i64 D.q)
 c1 : w.cell? ⟨b,1,none⟩ = some (.int .i64 D.p)
 c2 : w.cell? ⟨b,2,none⟩ = some (.int .i64 D.m)
 c3 : w.cell? ⟨b,3,none⟩ = some (.int .i64 gen)
 c4 : w.cell? ⟨b,4,none⟩ = some v
theorem Box.below {b B : Nat} {D : FD} {gen : Nat} {v : Value} {w w' : World} (h : Box b D gen v w) (hb : Below B w w') (hB : b < B) : Box b D gen v w' :=
 have e := (bcell hb).1
 ⟨(e b 0 hB).trans h.c0,(e b 1 hB).trans h.c1,(e b 2 hB).trans h.c2,(e b 3 hB).trans h.c3,(e b 4 hB).trans h.c4⟩
theorem Box.other {b : Nat} {D : FD} {gen : Nat} {v : Value} {w w' : World} (h : Box b D gen v w) (e : w'.heap[b]? = w.heap[b]?) : Box b D gen v w' :=
 have e' : ∀ o,w'.cell? ⟨b,o,none⟩ = w.cell? ⟨b,o,none⟩ := fun o => World.cell?_of_block (a := ⟨b,o,none⟩) e
 ⟨(e' 0).trans h.c0,(e' 1).trans h.c1,(e' 2).trans h.c2,(e' 3).trans h.c3,(e' 4).trans h.c4⟩
theorem box_new (D : FD) (gen : Nat) (v : Value) (w : World) : Box w.heap.size D gen v (w.alloc (.cells #[.int .i64 D.q, .int .i64 D.p, .int .i64 D.m, .int .i64 gen,v] 59)) :=
 ⟨by simp,by simp,by simp,by simp,by simp⟩
theorem dg_lt (p a j : Nat) (hp : 1 ≤ p) : dg p a j < p := Nat.mod_lt _ hp
set_option maxHeartbeats 4000000 in
set_option maxRecDepth 100000 in
theorem radd_dig {D : FD} (hm : 2 ≤ D.m) (hm6 : D.m ≤ 6) (hp : 3 ≤ D.p) (hp2 : D.p ≤ 64) (hpn : D.p ^ D.m ≤ 4096) (gen : Nat) (v : Value) (a b : Nat) (w : World) (ha : a < 64) (hb : b < 64) (h1 : D.has a = true) (h2 : D.has b = true) :
   Calls Tryz.prog 61 #[rf D.q D.p D.m gen v, .int .i64 a, .int .i64 b] w fun e w' => e = .returned (.int .i64 (horner D.p (fun j => (dg D.p a j + dg D.p b j) % D.p) D.m D.m : Nat)) ∧ Below w.heap.size w w' := by
 have hm' : ((D.m : Int) == 1) = false := by rw [beq_eq_false_iff_ne]; omega
 have hp' : ((D.p : Int) == 2) = false := by rw [beq_eq_false_iff_ne]; omega
 have HPN : Hid (D.p ^ D.m ≤ 4096) := hpn
 clear hpn
 unfold rf
 go_enter Tryz.func61,Tryz.ntmps61
 go_wp2_with fail
 refine (rhas_any D gen v a _).mono ?_
 rintro e w1 ⟨rfl,hb1⟩
 have HX1 : Hid (Box w.heap.size D gen v w1 ∧ Below w.heap.size w w1) := ⟨(box_new D gen v w).below hb1 (by simp),((Below.refl _ _).alloc (Nat.le_refl _) _).trans (hb1.mono (by simp))⟩
 have hs1 : w.heap.size < w1.heap.size := by have := hb1.size; simp at this; omega
 obtain ⟨c0,c1,c2,c3,c4⟩ := HX1.out.1
 clear hb1
 go_wp2_with fail
 refine (rhas_any D gen v b _).mono ?_
 rintro e w2 ⟨rfl,hb2⟩
 have HX2 : Hid (Box w.heap.size D gen v w2 ∧ Below w.heap.size w w2) := ⟨HX1.out.1.below hb2 hs1,HX1.out.2.trans (hb2.mono (by omega))⟩
 have hs2 : w.heap.size < w2.heap.size := by have := hb2.size; omega
 clear c0 c1 c2 c3 c4 hb2
 obtain ⟨c0,c1,c2,c3,c4⟩ := HX2.out.1
 go_wp2_with fail
 refine (digits_any a D.p D.m _ (by omega) (by omega) hp2 (by omega)).mono ?_
 rintro e w3 ⟨vx,rfl,hox,hb3⟩
 have HX3 : Hid (Box w.heap.size D gen v w3 ∧ Below w.heap.size w w3) := ⟨HX2.out.1.below hb3 hs2,HX2.out.2.trans (hb3.mono (by omega))⟩
 have hs3 : w.heap.size < w3.heap.size := by have := hb3.size; omega
 clear c0 c1 c2 c3 c4
 obtain ⟨c0,c1,c2,c3,c4⟩ := HX3.out.1
 have HOX : Hid (OwnI w2.heap.size vx (digL D.p a D.m) w3) := hox
 clear hb3 hox
 go_wp2_with fail
 refine (digits_any b D.p D.m _ (by omega) (by omega) hp2 (by omega)).mono ?_
 rintro e w4 ⟨vy,rfl,hoy,hb4⟩
 have HX4 : Hid (Box w.heap.size D gen v w4 ∧ Below w.heap.size w w4) := ⟨HX3.out.1.below hb4 hs3,HX3.out.2.trans (hb4.mono (by omega))⟩
 have hs4 : w3.heap.size ≤ w4.heap.size := hb4.size
 obtain ⟨gx,cx,fx,rfl,hgx,hgx',hlx,hcx,hrx,hvx⟩ := (HOX.out.below hb4 (fun k hk => (HOX.out.lt k hk).2)).row D.m (digL_len _ _ _) (by omega)
 obtain ⟨gy,cy,fy,rfl,hgy,hgy',hly,hcy,hry,hvy⟩ := hoy.row D.m (digL_len _ _ _) (by omega)
 have hxy : gx < gy := by
   have := (HOX.out.lt gx rfl).2
   omega
 have HV : Hid ((∀ j,j < D.m → fx j = .int .i64 (dg D.p a j : Nat)) ∧ (∀ j,j < D.m → fy j = .int .i64 (dg D.p b j : Nat)) ∧ RowF gx cx 3 fx w4 ∧ RowF gy cy 3 fy w4) :=
   ⟨fun j hj => by rw [hvx j hj,digL_get _ _ _ _ hj],fun j hj => by rw [hvy j hj,digL_get _ _ _ _ hj],hrx,hry⟩
 clear c0 c1 c2 c3 c4 hb4 hoy hvx hvy hrx hry
 obtain ⟨c0,c1,c2,c3,c4⟩ := HX4.out.1
 go_wp2
 go_loopw [9] (fun i wr => ∃ (k : Nat) (f : Nat → Value), k ≤ D.m ∧ i = .int .i64 k ∧ RowF gx cx 3 f wr ∧ (∀ j, j < k → f j = .int .i64 ((dg D.p a j + dg D.p b j) % D.p : Nat)) ∧ (∀ j, k ≤ j → j < D.m → f j = .int .i64 (dg D.p a j : Nat)) ∧
     RowF gy cy 3 fy wr ∧ Box w.heap.size D gen v wr ∧ Below w.heap.size w wr) (fun i _ => D.m - (intOf i).toNat)
 case atStart => exact ⟨0,fx,by omega,rfl,HV.out.2.2.1,fun j hj => by omega,fun j _ hj => HV.out.1 j hj,HV.out.2.2.2,HX4.out.1,HX4.out.2⟩
 case round =>
   clear c0 c1 c2 c3 c4
   obtain ⟨k,f,hk,rfl,hrow,hlo,hhi,hry,hbox,hbel⟩ := hrel
   obtain ⟨c0,c1,c2,c3,c4⟩ := hbox
   have HG : Hid (RowF gx cx 3 f wr ∧ (∀ j,j < k → f j = .int .i64 ((dg D.p a j + dg D.p b j) % D.p : Nat)) ∧ (∀ j,k ≤ j → j < D.m → f j = .int .i64 (dg D.p a j : Nat)) ∧
     RowF gy cy 3 fy wr ∧ Box w.heap.size D gen v wr ∧ Below w.heap.size w wr) := ⟨hrow,hlo,hhi,hry,⟨c0,c1,c2,c3,c4⟩,hbel⟩
   clear hrow hlo hhi hry hbel
   by_cases hlt : k < D.m
   · have hcx' : wr.cell? ⟨gx,k,none⟩ = some (.int .i64 (dg D.p a k : Nat)) := by rw [HG.out.1.cell k (by omega),HG.out.2.2.1 k (by omega) hlt]
     have hcy' : wr.cell? ⟨gy,k,none⟩ = some (.int .i64 (dg D.p b k : Nat)) := by rw [HG.out.2.2.2.1.cell k (by omega),HV.out.2.1 k hlt]
     have hfx : wr.frozen? ⟨gx,k,none⟩ = false := HG.out.1.free k
     have hd1 := dg_lt D.p a k (by omega)
     have hd2 := dg_lt D.p b k (by omega)
     go_wp2
     go_region
     go_wp2
     go_roundw
     case rel => exact ⟨k + 1,_,by omega,by go_num,(HG.out.1.store _ _).drew,fun j hj => if e : j = k then by rw [e,upd_at]; rfl else (upd_ne _ _ _ e).trans (HG.out.2.1 j (by omega)),fun j h3 h4 => (upd_ne _ _ _ (by omega)).trans (HG.out.2.2.1 j (by omega) h4),(HG.out.2.2.2.1.setOther ⟨gx,k,none⟩ (by show gy ≠ gx; omega) _).drew,HG.out.2.2.2.2.1.other (Below.heap_setCell wr ⟨gx,k,none⟩ _ _ (by show w.heap.size ≠ gx; omega)),(HG.out.2.2.2.2.2.setCell (by show w.heap.size ≤ gx; omega) _).drew⟩
     case measure => simp [intOf]; omega
   · have HC : Hid (∀ j,j < D.m → wr.cell? ⟨gx,j,none⟩ = some (.int .i64 ((dg D.p a j + dg D.p b j) % D.p : Nat))) := fun j hj => by rw [HG.out.1.cell j (by omega),HG.out.2.1 j (by omega)]
     go_wp2_with fail
     refine (number_any gx cx D.p D.m (fun j => (dg D.p a j + dg D.p b j) % D.p) wr (by omega) hp2 hm6 HPN.out (fun j => Nat.mod_lt _ (by omega)) HC.out).mono ?_
     rintro e w' ⟨rfl,rfl⟩
     go_wp2
     go_ret
     exact ⟨rfl,HG.out.2.2.2.2.2⟩
theorem radd_any {D : FD} (hD : D ∈ fieldsL) (gen : Nat) (v : Value) (a b : Int) (w : World) :
   Calls Tryz.prog 61 #[rf D.q D.p D.m gen v, .int .i64 a, .int .i64 b] w fun e w' => e = .returned (.int .i64 (D.addZ a b)) ∧ Below w.heap.size w w' := by
 have F := fld hD
 by_cases ha : D.has a = true
 · by_cases hb : D.has b = true
   · obtain ⟨x,rfl,hx⟩ := has_nat ha
     obtain ⟨y,rfl,hy⟩ := has_nat hb
     have h64 := F.q64
     have hv : D.addZ x y = (raddN D x y : Nat) := by rw [radd_is hD x y hx hy,FD.addZ,if_pos ⟨ha,hb⟩]; rfl
     rw [hv]
     unfold raddN
     by_cases hm : D.m = 1
     · rw [if_pos hm]; exact radd_one hm (by have := F.p2; omega) F.p64 gen v x y w (by omega) (by omega) ha hb
     · rw [if_neg hm]
       by_cases hp : D.p = 2
       · rw [if_pos hp]; exact radd_two hm hp gen v x y w (by omega) (by omega) ha hb
       · rw [if_neg hp]; exact radd_dig (by have := F.m1; omega) F.m6 (by have := F.p2; omega) F.p64 (by rw [← F.qp]; omega) gen v x y w (by omega) (by omega) ha hb
   · have hv : D.addZ a b = -1 := by rw [FD.addZ,if_neg (by simp [hb])]
     rw [hv]; exact radd_no gen v a b w (Or.inr (by simpa using hb))
 · have hv : D.addZ a b = -1 := by rw [FD.addZ,if_neg (by simp [ha])]
   rw [hv]; exact radd_no gen v a b w (Or.inl (by simpa using ha))
theorem neg_mod (d p : Nat) (h : d < p) : (-(d : Int)) % (p : Int) = (((p - d) % p : Nat) : Int) := by
 have e : (-(d : Int)) = ((p - d : Nat) : Int) + (-1) * (p : Int) := by omega
 rw [e,Int.add_mul_emod_self_right,Int.natCast_emod]
set_option maxHeartbeats 4000000 in
set_option maxRecDepth 100000 in
theorem rneg_dig {D : FD} (hm : 1 ≤ D.m) (hm6 : D.m ≤ 6) (hp : 2 ≤ D.p) (hp2 : D.p ≤ 64) (hpn : D.p ^ D.m ≤ 4096) (gen : Nat) (v : Value) (a : Nat) (w : World) (ha : a < 64) (h1 : D.has a = true) :
   Calls Tryz.prog 46 #[rf D.q D.p D.m gen v, .int .i64 a] w fun e w' => e = .returned (.int .i64 (rnegN D a : Nat)) ∧ Below w.heap.size w w' := by
 have HPN : Hid (D.p ^ D.m ≤ 4096) := hpn
 have HN : Hid (rnegN D a = horner D.p (fun j => (D.p - dg D.p a j) % D.p) D.m D.m) := rfl
 clear hpn
 unfold rf
 go_enter Tryz.func46,Tryz.ntmps46
 go_wp2_with fail
 refine (rhas_any D gen v a _).mono ?_
 rintro e w1 ⟨rfl,hb1⟩
 have HX1 : Hid (Box w.heap.size D gen v w1 ∧ Below w.heap.size w w1) := ⟨(box_new D gen v w).below hb1 (by simp),((Below.refl _ _).alloc (Nat.le_refl _) _).trans (hb1.mono (by simp))⟩
 have hs1 : w.heap.size < w1.heap.size := by have := hb1.size; simp at this; omega
 obtain ⟨c0,c1,c2,c3,c4⟩ := HX1.out.1
 clear hb1
 go_wp2_with fail
 refine (digits_any a D.p D.m _ (by omega) (by omega) hp2 (by omega)).mono ?_
 rintro e w3 ⟨vx,rfl,hox,hb3⟩
 have HX3 : Hid (Box w.heap.size D gen v w3 ∧ Below w.heap.size w w3) := ⟨HX1.out.1.below hb3 hs1,HX1.out.2.trans (hb3.mono (by omega))⟩
 have hs3 : w.heap.size < w3.heap.size := by have := hb3.size; omega
 obtain ⟨gx,cx,fx,rfl,hgx,hgx',hlx,hcx,hrx,hvx⟩ := hox.row D.m (digL_len _ _ _) (by omega)
 have HV : Hid ((∀ j,j < D.m → fx j = .int .i64 (dg D.p a j : Nat)) ∧ RowF gx cx 3 fx w3) :=
   ⟨fun j hj => by rw [hvx j hj,digL_get _ _ _ _ hj],hrx⟩
 clear c0 c1 c2 c3 c4 hb3 hox hvx hrx
 obtain ⟨c0,c1,c2,c3,c4⟩ := HX3.out.1
 go_wp2
 go_loopw [6] (fun i wr => ∃ (k : Nat) (f : Nat → Value), k ≤ D.m ∧ i = .int .i64 k ∧ RowF gx cx 3 f wr ∧ (∀ j, j < k → f j = .int .i64 ((D.p - dg D.p a j) % D.p : Nat)) ∧ (∀ j, k ≤ j → j < D.m → f j = .int .i64 (dg D.p a j : Nat)) ∧
     Box w.heap.size D gen v wr ∧ Below w.heap.size w wr) (fun i _ => D.m - (intOf i).toNat)
 case atStart => exact ⟨0,fx,by omega,rfl,HV.out.2,fun j hj => by omega,fun j _ hj => HV.out.1 j hj,HX3.out.1,HX3.out.2⟩
 case round =>
   clear c0 c1 c2 c3 c4
   obtain ⟨k,f,hk,rfl,hrow,hlo,hhi,hbox,hbel⟩ := hrel
   obtain ⟨c0,c1,c2,c3,c4⟩ := hbox
   have HG : Hid (RowF gx cx 3 f wr ∧ (∀ j,j < k → f j = .int .i64 ((D.p - dg D.p a j) % D.p : Nat)) ∧ (∀ j,k ≤ j → j < D.m → f j = .int .i64 (dg D.p a j : Nat)) ∧
     Box w.heap.size D gen v wr ∧ Below w.heap.size w wr) := ⟨hrow,hlo,hhi,⟨c0,c1,c2,c3,c4⟩,hbel⟩
   clear hrow hlo hhi hbel
   by_cases hlt : k < D.m
   · have hcx' : wr.cell? ⟨gx,k,none⟩ = some (.int .i64 (dg D.p a k : Nat)) := by rw [HG.out.1.cell k (by omega),HG.out.2.2.1 k (by omega) hlt]
     have hfx : wr.frozen? ⟨gx,k,none⟩ = false := HG.out.1.free k
     have hd1 := dg_lt D.p a k (by omega)
     go_wp2
     go_region
     go_wp2
     go_roundw
     case rel => exact ⟨k + 1,_,by omega,by go_num,(HG.out.1.store _ _).drew,fun j hj => if e : j = k then by rw [e,upd_at,neg_mod _ _ hd1] else (upd_ne _ _ _ e).trans (HG.out.2.1 j (by omega)),fun j h3 h4 => (upd_ne _ _ _ (by omega)).trans (HG.out.2.2.1 j (by omega) h4),HG.out.2.2.2.1.other (Below.heap_setCell wr ⟨gx,k,none⟩ _ _ (by show w.heap.size ≠ gx; omega)),(HG.out.2.2.2.2.setCell (by show w.heap.size ≤ gx; omega) _).drew⟩
     case measure => simp [intOf]; omega
   · have HC : Hid (∀ j,j < D.m → wr.cell? ⟨gx,j,none⟩ = some (.int .i64 ((D.p - dg D.p a j) % D.p : Nat))) := fun j hj => by rw [HG.out.1.cell j (by omega),HG.out.2.1 j (by omega)]
     go_wp2_with fail
     refine (number_any gx cx D.p D.m (fun j => (D.p - dg D.p a j) % D.p) wr (by omega) hp2 hm6 HPN.out (fun j => Nat.mod_lt _ (by omega)) HC.out).mono ?_
     rintro e w' ⟨rfl,rfl⟩
     go_wp2
     go_ret
     exact ⟨ret_int (by rw [HN.out]),HG.out.2.2.2.2⟩
set_option maxHeartbeats 1000000 in
theorem rneg_any {D : FD} (hD : D ∈ fieldsL) (gen : Nat) (v : Value) (a : Int) (w : World) :
   Calls Tryz.prog 46 #[rf D.q D.p D.m gen v, .int .i64 a] w fun e w' => e = .returned (.int .i64 (D.negZ a)) ∧ Below w.heap.size w w' := by
 have F := fld hD
 by_cases ha : D.has a = true
 · obtain ⟨x,rfl,hx⟩ := has_nat ha
   have h64 := F.q64
   have hv : D.negZ x = (rnegN D x : Nat) := by rw [rneg_is hD x hx,FD.negZ,if_pos ha]; rfl
   rw [hv]
   exact rneg_dig F.m1 F.m6 F.p2 F.p64 (by rw [← F.qp]; omega) gen v x w (by omega) ha
 · have hv : D.negZ a = -1 := by rw [FD.negZ,if_neg ha]
   have ha' : D.has a = false := by simpa using ha
   rw [hv]
   clear hv ha hD F
   unfold rf
   go_enter Tryz.func46,Tryz.ntmps46
   go_wp2_with fail
   refine (rhas_any D gen v a _).mono ?_
   rintro e w1 ⟨rfl,hb1⟩
   have HB1 : Hid (Below w.heap.size w w1) := ((Below.refl _ _).alloc (Nat.le_refl _) _).trans (hb1.mono (by simp))
   clear hb1
   go_wp2
   go_ret
   exact ⟨rfl,HB1.out⟩
set_option maxHeartbeats 1000000 in
theorem rsub_any {D : FD} (hD : D ∈ fieldsL) (gen : Nat) (v : Value) (a b : Int) (w : World) :
   Calls Tryz.prog 100 #[rf D.q D.p D.m gen v, .int .i64 a, .int .i64 b] w fun e w' => e = .returned (.int .i64 (D.subZ a b)) ∧ Below w.heap.size w w' := by
 have HD : Hid (D ∈ fieldsL) := hD
 clear hD
 unfold rf
 go_enter Tryz.func100,Tryz.ntmps100
 go_wp2_with fail
 refine (rneg_any HD.out gen v b _).mono ?_
 rintro e w1 ⟨rfl,hb1⟩
 have HX1 : Hid (Box w.heap.size D gen v w1 ∧ Below w.heap.size w w1) := ⟨(box_new D gen v w).below hb1 (by simp),((Below.refl _ _).alloc (Nat.le_refl _) _).trans (hb1.mono (by simp))⟩
 obtain ⟨c0,c1,c2,c3,c4⟩ := HX1.out.1
 clear hb1
 go_wp2_with fail
 refine (radd_any HD.out gen v a _ _).mono ?_
 rintro e w2 ⟨rfl,hb2⟩
 have HB2 : Hid (Below w.heap.size w w2) := HX1.out.2.trans (hb2.mono HX1.out.2.size)
 clear hb2 c0 c1 c2 c3 c4
 go_wp2
 go_ret
 exact ⟨rfl,HB2.out⟩
theorem list_getD_replicate (n j : Nat) : (List.replicate n (0 : Int)).getD j 0 = 0 := by
 rw [List.getD_eq_getElem?_getD,List.getElem?_replicate]; split <;> rfl
theorem make_int {ops : Array Oper} {rest : List Oper} {o : Oper} {a : Act} {w : World} {Q : Exit → Act → World → Prop}
   (hg : o.guard = none) (l c : Operand) (hop : o.op = Op.makeSlice 22 l c) (C : Int) (n : Nat) (hl : a.eval l = .int .i64 C) (hc : a.eval c = .int .i64 C) (hC : C = (n : Int)) (hn : n ≤ 1000000)
   (hK : ∀ w',OwnI w.heap.size (.slice (some ⟨w.heap.size,0,none⟩) n n) (List.replicate n 0) w' → w.grownBy w' none → wpList Tryz.prog ops Q rest (a.put o.dst (.slice (some ⟨w.heap.size,0,none⟩) n n)) w') :
   wpList Tryz.prog ops Q (o :: rest) a w := by
 obtain ⟨i0,hi,hz0,hz1,hz2⟩ := info_parts Tryz.infoInt
 refine wpList_make_full w hg l c 22 hop w.heap.size 3 i0 (.int .i64 0) 1 Tryz.underlying22 hi hz0 hz1 .i64 .i64 C C n hl hc hC hC (by rw [hz2]; omega) (by unfold maxLen; omega) (Nat.le_refl _) ?_
 intro w' hown hgrow
 refine hK w' ?_ hgrow
 unfold OwnI
 rw [List.length_replicate,List.map_replicate]
 have e : (madeCells (Value.int .i64 0).cells (n * 1)).toList = List.replicate n (.int .i64 0) := by
   rw [Nat.mul_one]; exact toList_madeCells_one _ _
 rw [e] at hown
 exact hown
end Go.Proofs.YtppggchhkckobaaGreat
