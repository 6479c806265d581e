/- Texts of ours, one behind the other: S12 I24 I25 I26 I27. -/
import Derived.Test.YtinmkgohganllaaGreatDoorZX15
import Derived.Test.YtinmkgohganllaaGreatDoorZI19
namespace Go.Proofs.YtinmkgohganllaaGreatDoor
def dot (D : FD) (a b : Nat → Nat) : Nat → Nat
 | 0 => 0
 | j + 1 => D.ad (dot D a b j) (D.mul (a j) (b j))
theorem dot_lt {D : FD} (F : Fld D) (a b : Nat → Nat) : ∀ j,dot D a b j < D.q
 | 0 => zero_lt' F
 | j + 1 => ad_lt F (dot_lt F a b j) (F.mul_lt _ _)
theorem dot_comm {D : FD} (F : Fld D) (a b : Nat → Nat) : ∀ n,dot D a b n = dot D b a n
 | 0 => rfl
 | n + 1 => by
   show D.ad (dot D a b n) (D.mul (a n) (b n)) = D.ad (dot D b a n) (D.mul (b n) (a n))
   rw [dot_comm F a b n,F.mul_comm (a n)]
theorem dot_nil {D : FD} (F : Fld D) (v : Nat → Nat) : ∀ n,dot D pnil v n = 0
 | 0 => rfl
 | n + 1 => by
   show D.ad (dot D pnil v n) (D.mul 0 (v n)) = 0
   rw [dot_nil F v n,zmul F,ad_zero F (zero_lt' F)]
theorem dot_add {D : FD} (F : Fld D) {a b : Nat → Nat} (ha : El D a) (hb : El D b) (v : Nat → Nat) : ∀ n,dot D (padd D a b) v n = D.ad (dot D a v n) (dot D b v n)
 | 0 => (ad_zero F (zero_lt' F)).symm
 | n + 1 => by
   show D.ad (dot D (padd D a b) v n) (D.mul (D.ad (a n) (b n)) (v n)) = D.ad (D.ad (dot D a v n) (D.mul (a n) (v n))) (D.ad (dot D b v n) (D.mul (b n) (v n)))
   rw [dot_add F ha hb v n,ad_mul F (ha n) (hb n),ad4 F (dot_lt F _ _ _) (dot_lt F _ _ _) (F.mul_lt _ _) (F.mul_lt _ _)]
theorem dot_scale {D : FD} (F : Fld D) (s : Nat) (a v : Nat → Nat) : ∀ n,dot D (pscale D s a) v n = D.mul s (dot D a v n)
 | 0 => (mul0 F s).symm
 | n + 1 => by
   show D.ad (dot D (pscale D s a) v n) (D.mul (D.mul s (a n)) (v n)) = D.mul s (D.ad (dot D a v n) (D.mul (a n) (v n)))
   rw [dot_scale F s a v n,mul_ad F (dot_lt F _ _ _) (F.mul_lt _ _),F.mul_assoc]
theorem dot_spn {D : FD} (F : Fld D) {P : (Nat → Nat) → Prop} {u x : Nat → Nat} {n : Nat} (h : Spn D P u) (hP : ∀ v,P v → dot D v x n = 0) : dot D u x n = 0 := by
 obtain ⟨l,hl,rfl⟩ := h
 induction l with
 | nil => exact dot_nil F x n
 | cons y l ih =>
   show dot D (padd D (pscale D y.1 y.2) (lsum D l)) x n = 0
   rw [dot_add F (el_scale F _ _) (lsum_el F l),dot_scale F,hP _ (hl y (List.mem_cons_self ..)),mul0 F,ih (fun z hz => hl z (List.mem_cons_of_mem _ hz)),ad_zero F (zero_lt' F)]
theorem dot_congr {D : FD} {a a' b b' : Nat → Nat} : ∀ n,(∀ j,j < n → a j = a' j ∧ b j = b' j) → dot D a b n = dot D a' b' n
 | 0,_ => rfl
 | n + 1,h => by
   show D.ad (dot D a b n) (D.mul (a n) (b n)) = D.ad (dot D a' b' n) (D.mul (a' n) (b' n))
   rw [dot_congr n (fun j hj => h j (by omega)),(h n (by omega)).1,(h n (by omega)).2]
theorem dot_put {D : FD} (F : Fld D) {a b : Nat → Nat} {j v : Nat} (hb : b j = 0) : ∀ n,j < n → dot D a (fun t => if t = j then v else b t) n = D.ad (dot D a b n) (D.mul (a j) v)
 | 0,h => absurd h (by omega)
 | n + 1,h => by
   show D.ad (dot D a (fun t => if t = j then v else b t) n) (D.mul (a n) (if n = j then v else b n)) = D.ad (D.ad (dot D a b n) (D.mul (a n) (b n))) (D.mul (a j) v)
   by_cases e : n = j
   · subst e
     rw [if_pos rfl,hb,mul0 F,ad_zero F (dot_lt F _ _ _),dot_congr (a' := a) (b' := b) n (fun t ht => ⟨rfl,if_neg (by omega)⟩)]
   · rw [if_neg e,dot_put F hb n (by omega),ad_assoc F (dot_lt F _ _ _) (F.mul_lt _ _) (F.mul_lt _ _),ad_comm F (D.mul (a j) v), ← ad_assoc F (dot_lt F _ _ _) (F.mul_lt _ _) (F.mul_lt _ _)]
theorem dot_unit {D : FD} (F : Fld D) {a : Nat → Nat} {c n : Nat} (ha : a c < D.q) (hc : c < n) : dot D a (fun t => if t = c then 1 else 0) n = a c := by
 have h := dot_put F (a := a) (b := pnil) (j := c) (v := 1) rfl n hc
 rw [mul1 F ha,dot_comm F a pnil,dot_nil F,zero_ad F ha] at h
 exact h
end Go.Proofs.YtinmkgohganllaaGreatDoor
namespace Go.Proofs.YtinmkgohganllaaGreatDoor
open Go.RowKit Go.Sort
set_option maxHeartbeats 8000000 in
set_option maxRecDepth 100000 in
theorem wordMay_any {D : FD} (hD : D ∈ fieldsL) {ro yo : Option Addr} {m my rc cy : Nat} {y : Nat → Int} (n : Int) {w : World} (hY : Arg yo my cy y w) :
   Calls Tryz.prog 36 #[.agg #[.int .i64 D.q, .int .i64 n, .slice ro m rc], .slice yo my cy] w fun e w' => e = .returned (.int .i64 (D.nchk my y n)) ∧ Below w.heap.size w w' := by
 obtain ⟨w0,hw0⟩ : ∃ w0,w0 = w.alloc (.cells #[.int .i64 D.q, .int .i64 n, .slice ro m rc] 25) := ⟨_,rfl⟩
 have HW : Hid (Below w.heap.size w w0 ∧ CB w.heap.size D.q n (.slice ro m rc) w0) := by
   rw [hw0]; exact ⟨(Below.refl _ _).alloc (Nat.le_refl _) _,CB.new _ _ _ _⟩
 have HF : Hid (D ∈ fieldsL ∧ Arg yo my cy y w) := ⟨hD,hY⟩
 have hm6 := hY.few
 clear hD hY
 go_enter Tryz.func36,Tryz.ntmps36
 go_wp2_with fail
 rw [← hw0]
 clear hw0
 refine (rfield_sl HF.out.1 w0).mono ?_
 rintro e w2 ⟨gm,cm,rfl,hmod,hb2⟩
 unfold rf
 obtain ⟨wa,hwa⟩ : ∃ wa,wa = w2.alloc (.cells #[.int .i64 D.q, .int .i64 D.p, .int .i64 D.m, .int .i64 D.gen, .slice (some ⟨gm,0,none⟩) (D.m + 1) cm] 48) := ⟨_,rfl⟩
 have HA : Hid (Box w2.heap.size D D.gen (.slice (some ⟨gm,0,none⟩) (D.m + 1) cm) wa ∧ wa.heap.size = w2.heap.size + 1 ∧ Below w.heap.size w wa) := by
   have hb : Below w2.heap.size w2 wa := by rw [hwa]; exact (Below.refl _ _).alloc (Nat.le_refl _) _
   exact ⟨by rw [hwa]; exact box_new D D.gen _ w2,by rw [hwa]; simp,bel_up' (bel_up' HW.out.1 hb2) hb⟩
 obtain ⟨p0,p1,p2⟩ := HW.out.2.keep hb2
 have hlt0 : w.heap.size < w2.heap.size := cell_lt p0
 clear hmod hb2
 by_cases hmn : ((my : Nat) : Int) = n
 · have HV : Hid (D.nchk my y n = if anyB (fun j => !D.has (y j)) my = true then 2 else 0) := by
     show _ = _
     unfold FD.nchk
     rw [if_neg (by omega)]
   subst hmn
   go_wp2
   rw [← hwa]
   clear hwa p0 p1 p2
   go_loopw [7] (fun i wr => ∃ r : Nat,r ≤ my ∧ i = .int .i64 r ∧ Hid (anyB (fun j => !D.has (y j)) r = false ∧ Below wa.heap.size wa wr)) (fun i _ => my - (intOf i).toNat)
   case atStart => exact ⟨0,by omega,rfl,rfl,Below.refl _ _⟩
   case round =>
     obtain ⟨r,hr,rfl,HP⟩ := hrel
     rename World => wr
     by_cases hlt : r < my
     · have hib : (r : Int) < (my : Int) := by omega
       have hib0 : (0 : Int) ≤ (r : Int) := by omega
       have hArg := HF.out.2.below (bel_up' HA.out.2.2 HP.out.2)
       obtain ⟨bx,ox,hxo,hcx⟩ := hArg.sl r hlt
       subst hxo
       obtain ⟨x,hx⟩ : ∃ x,x = y r := ⟨_,rfl⟩
       rw [← hx] at hcx
       obtain ⟨hb0,hh0⟩ : ∃ hb0,hb0 = D.has x := ⟨_,rfl⟩
       have HC1 : Hid (∀ d os,Calls Tryz.prog 72 #[.agg #[.int .i64 D.q, .int .i64 D.p, .int .i64 D.m, .int .i64 D.gen, .slice (some ⟨gm,0,none⟩) (D.m + 1) cm], .int .i64 x] (grow (redrawn wr d) os) fun e w'' => e = .returned (.bool hb0) ∧ ∃ p : Regrown,w'' = grow (redrawn wr p.d) p.os) := fun d os => by
         rw [hh0]
         exact Calls.regrown_of (rhas_any D D.gen _ x _)
       have HN : Hid (anyB (fun j => !D.has (y j)) (r + 1) = !hb0) := by
         show (anyB (fun j => !D.has (y j)) r || !D.has (y r)) = _
         rw [HP.out.1,Bool.false_or,hh0,hx]
       have hbx := HA.out.1.below (B := wa.heap.size) HP.out.2 (by have := HA.out.2.1; omega)
       have k0 := cell_regrown hbx.c0
       have k1 := cell_regrown hbx.c1
       have k2 := cell_regrown hbx.c2
       have k3 := cell_regrown hbx.c3
       have k4 := cell_regrown hbx.c4
       have k5 := cell_regrown hcx
       have HB2 : Hid (Below w.heap.size w wr ∧ Below wa.heap.size wa wr) := ⟨bel_up' HA.out.2.2 HP.out.2,HP.out.2⟩
       clear hx hh0 hArg hbx hcx
       cases hb0 with
       | true =>
         go_wp2
         refine wp_region_quiet_below (by kernel_rfl) (by kernel_rfl) ?_
         repeat (go_big_quiet_step (first | (go_at_call 72; exact HC1.out _ _)))
         refine wpQuiet_nil ?_
         intro _ hw'
         obtain ⟨⟨dr,osr⟩,hw''⟩ := hw'
         subst hw''
         go_wp2
         go_roundw
         case rel => exact ⟨r + 1,by omega,by go_num,HN.out,bel_up' HB2.out.2 (below_regrown wr dr osr)⟩
         case measure => simp [intOf]; omega
       | false =>
         have HV2 : Hid (D.nchk my y my = 2) := by
           show _ = _
           have h3 : (fun j => !D.has (y j)) r = true := by
             have h4 : (anyB (fun j => !D.has (y j)) r || !D.has (y r)) = true := HN.out
             rw [HP.out.1,Bool.false_or] at h4; exact h4
           rw [HV.out,anyB_yes h3 my hlt]; rfl
         go_wp2
         refine wp_region_quiet_below (by kernel_rfl) (by kernel_rfl) ?_
         repeat (go_big_quiet_step (first | (go_at_call 72; exact HC1.out _ _)))
         refine wpQuiet_nil ?_
         intro _ hw'
         obtain ⟨⟨dr,osr⟩,hw''⟩ := hw'
         subst hw''
         go_wp2
         go_ret
         exact ⟨ret_int (by rw [HV2.out]),bel_up' HB2.out.1 (below_regrown wr dr osr)⟩
     · have hib : ¬ (r : Int) < (my : Int) := by omega
       have hre : my = r := by omega
       subst hre
       have HV2 : Hid (D.nchk my y my = 0) := by show _ = _; rw [HV.out,HP.out.1]; rfl
       have H3 : Hid (Below w.heap.size w wr) := bel_up' HA.out.2.2 HP.out.2
       go_wp2
       go_ret
       exact ⟨ret_int (by rw [HV2.out]),H3.out⟩
 · have HV : Hid (D.nchk my y n = 6) := by show _ = _; unfold FD.nchk; rw [if_pos hmn]
   have hz : (((my : Nat) : Int) != n) = true := by rw [bne_iff_ne]; exact hmn
   clear hmn
   go_wp2
   rw [← hwa]
   go_ret
   exact ⟨ret_int (by rw [HV.out]),HA.out.2.2⟩
set_option maxHeartbeats 8000000 in
set_option maxRecDepth 100000 in
theorem rdot_any {D : FD} (hD : D ∈ fieldsL) (gen gm cm : Nat) {ao bo : Option Addr} {n ca cb : Nat} {a b : Nat → Nat} {w : World} (hn : n ≤ 1000) (ha : ∀ i,i < n → a i < D.q) (hb : ∀ i,i < n → b i < D.q) (hA : Sl ao n a w) (hla : LtB ao w.heap.size) (hB : Sl bo n b w) (hlb : LtB bo w.heap.size) (hM : ModAt D (.slice (some ⟨gm,0,none⟩) (D.m + 1) cm) D.md w) :
   Calls Tryz.prog 53 #[.agg #[.int .i64 D.q, .int .i64 D.p, .int .i64 D.m, .int .i64 gen, .slice (some ⟨gm,0,none⟩) (D.m + 1) cm], .slice ao n ca, .slice bo n cb] w fun e w' => e = .returned (.int .i64 (dot D a b n : Nat)) ∧ Below w.heap.size w w' := by
 obtain ⟨wa,hwa⟩ : ∃ wa,wa = w.alloc (.cells #[.int .i64 D.q, .int .i64 D.p, .int .i64 D.m, .int .i64 gen, .slice (some ⟨gm,0,none⟩) (D.m + 1) cm] 48) := ⟨_,rfl⟩
 have hba : Below w.heap.size w wa := by rw [hwa]; exact (Below.refl _ _).alloc (Nat.le_refl _) _
 have HF : Hid (D ∈ fieldsL ∧ Sl ao n a wa ∧ Sl bo n b wa ∧ LtB ao wa.heap.size ∧ LtB bo wa.heap.size ∧ (∀ i,i < n → a i < D.q) ∧ (∀ i,i < n → b i < D.q) ∧ ModAt D (.slice (some ⟨gm,0,none⟩) (D.m + 1) cm) D.md w ∧ Below w.heap.size w wa) := ⟨hD,hA.below hba hla,hB.below hba hlb,fun x hx => Nat.lt_of_lt_of_le (hla x hx) hba.size,fun x hx => Nat.lt_of_lt_of_le (hlb x hx) hba.size,ha,hb,hM,hba⟩
 have HX : Hid (Box w.heap.size D gen (.slice (some ⟨gm,0,none⟩) (D.m + 1) cm) wa ∧ wa.heap.size = w.heap.size + 1) := ⟨by rw [hwa]; exact box_new D gen _ w,by rw [hwa]; simp⟩
 clear hD ha hb hA hla hB hlb hM hba
 go_enter Tryz.func53,Tryz.ntmps53
 go_wp2
 rw [← hwa]
 clear hwa
 go_loopw [7,8] (fun vs vi wr => ∃ i s : Nat,i ≤ n ∧ vs = .int .i64 (s : Nat) ∧ vi = .int .i64 i ∧ Hid (s = dot D a b i ∧ Below wa.heap.size wa wr)) (fun _ vi _ => n - (intOf vi).toNat)
 case atStart => exact ⟨0,0,by omega,rfl,rfl,rfl,Below.refl _ _⟩
 case round =>
   obtain ⟨i,s,hi,rfl,rfl,HG⟩ := hrel
   rename World => wr
   by_cases hlt : i < n
   · have hib : (i : Int) < (n : Int) := by omega
     have hib0 : (0 : Int) ≤ (i : Int) := by omega
     obtain ⟨bx,ox,hxo,hcx⟩ := (HF.out.2.1.below HG.out.2 HF.out.2.2.2.1) i hlt
     subst hxo
     obtain ⟨bY,oY,hyo,hcy⟩ := (HF.out.2.2.1.below HG.out.2 HF.out.2.2.2.2.1) i hlt
     subst hyo
     obtain ⟨x,hx⟩ : ∃ x,x = a i := ⟨_,rfl⟩
     obtain ⟨y,hy⟩ : ∃ y,y = b i := ⟨_,rfl⟩
     rw [← hx] at hcx
     rw [← hy] at hcy
     have F := fld HF.out.1
     obtain ⟨p,hp⟩ : ∃ p,p = D.mul x y := ⟨_,rfl⟩
     obtain ⟨u,hu⟩ : ∃ u,u = D.ad s p := ⟨_,rfl⟩
     have hxq : x < D.q := by rw [hx]; exact HF.out.2.2.2.2.2.1 i hlt
     have hyq : y < D.q := by rw [hy]; exact HF.out.2.2.2.2.2.2.1 i hlt
     have hsq : s < D.q := by rw [HG.out.1]; exact dot_lt F _ _ _
     have hpq : p < D.q := by rw [hp]; exact F.mul_lt _ _
     have hbx := HX.out.1.below HG.out.2 (by have := HX.out.2; omega)
     have k0 := cell_regrown hbx.c0
     have k1 := cell_regrown hbx.c1
     have k2 := cell_regrown hbx.c2
     have k3 := cell_regrown hbx.c3
     have k4 := cell_regrown hbx.c4
     have k5 := cell_regrown hcx
     have k6 := cell_regrown hcy
     have hbw : Below w.heap.size w wr := bel_up' HF.out.2.2.2.2.2.2.2.2 HG.out.2
     have HC1 : Hid (∀ d os,Calls Tryz.prog 68 #[.agg #[.int .i64 D.q, .int .i64 D.p, .int .i64 D.m, .int .i64 gen, .slice (some ⟨gm,0,none⟩) (D.m + 1) cm], .int .i64 (x : Nat), .int .i64 (y : Nat)] (grow (redrawn wr d) os) fun e w'' => e = .returned (.int .i64 (p : Nat)) ∧ ∃ p : Regrown,w'' = grow (redrawn wr p.d) p.os) := fun d os => by
       rw [hp]
       exact Calls.regrown_of (rmul_nat HF.out.1 gen HF.out.2.2.2.2.2.2.2.1 x y hxq hyq _ (bel_up' hbw (below_regrown wr d os)))
     have HC2 : Hid (∀ d os,Calls Tryz.prog 89 #[.agg #[.int .i64 D.q, .int .i64 D.p, .int .i64 D.m, .int .i64 gen, .slice (some ⟨gm,0,none⟩) (D.m + 1) cm], .int .i64 (s : Nat), .int .i64 (p : Nat)] (grow (redrawn wr d) os) fun e w'' => e = .returned (.int .i64 (u : Nat)) ∧ ∃ p : Regrown,w'' = grow (redrawn wr p.d) p.os) := fun d os => by
       have h := radd_nat HF.out.1 gen (.slice (some ⟨gm,0,none⟩) (D.m + 1) cm) s p hsq hpq (grow (redrawn wr d) os)
       rw [hu]
       exact Calls.regrown_of h
     have HV : Hid (u = dot D a b (i + 1) ∧ Below wa.heap.size wa wr) := ⟨by rw [hu,hp,hx,hy,HG.out.1]; rfl,HG.out.2⟩
     clear hx hy hp hu hbx hbw F hcx hcy HG
     go_wp2
     refine wp_region_quiet_below (by kernel_rfl) (by kernel_rfl) ?_
     repeat (go_big_quiet_step (first | (go_at_call 68; exact HC1.out _ _) | (go_at_call 89; exact HC2.out _ _)))
     refine wpQuiet_nil ?_
     intro _ hw'
     obtain ⟨⟨dr,osr⟩,hw''⟩ := hw'
     subst hw''
     go_wp2
     go_roundw
     case rel => exact ⟨i + 1,u,by omega,rfl,by go_num,HV.out.1,bel_up' HV.out.2 (below_regrown wr dr osr)⟩
     case measure => simp [intOf]; omega
   · have hib : ¬ (i : Int) < (n : Int) := by omega
     have hre : n = i := by omega
     subst hre
     have H3 : Hid (Below w.heap.size w wr) := bel_up' HF.out.2.2.2.2.2.2.2.2 HG.out.2
     go_wp2
     go_ret
     exact ⟨by rw [HG.out.1]; rfl,H3.out⟩
def syn (D : FD) (R : Nat → Nat → Nat) (z : Nat → Nat) (n i j c : Nat) : Nat := if c < i then dot D (R c) z n else if c = i then dot D (R c) z j else 0
set_option maxHeartbeats 16000000 in
set_option maxRecDepth 100000 in
theorem cSyn_ok {D : FD} (hD : D ∈ fieldsL) {ao yo : Option Addr} {m n ca my cy k : Nat} {A : Nat → Option Addr} {N C : Nat → Nat} {Z : Nat → Nat → Int} {R : Nat → Nat → Nat} {y : Nat → Int} {w : World} (ha : CdZ D ao m n A N C Z w) (hY : Arg yo my cy y w) (hR : Dul D n m (mzc N Z) k R) (hk : D.nchk my y n = 0)
   (hC : ∀ wx,Below w.heap.size w wx → Calls Tryz.prog 19 #[.agg #[.int .i64 D.q, .int .i64 (n : Nat), .slice ao m ca]] wx fun x w' => x = .returned (.int .i64 0) ∧ Below wx.heap.size wx w') :
   Calls Tryz.prog 54 #[.agg #[.int .i64 D.q, .int .i64 (n : Nat), .slice ao m ca], .slice yo my cy] w fun x w' => LstP w.heap.size k (fun i => dot D (R i) (zc my y) n) x w' ∧ Below w.heap.size w w' := by
 have hmy : my = n := by have := (nchk_ok hk).1; omega
 subst hmy
 obtain ⟨w0,hw0⟩ : ∃ w0,w0 = w.alloc (.cells #[.int .i64 D.q, .int .i64 (my : Nat), .slice ao m ca] 25) := ⟨_,rfl⟩
 have HW : Hid (Below w.heap.size w w0 ∧ CB w.heap.size D.q my (.slice ao m ca) w0) := by
   rw [hw0]; exact ⟨(Below.refl _ _).alloc (Nat.le_refl _) _,CB.new _ _ _ _⟩
 have HA : Hid (D ∈ fieldsL ∧ CdZ D ao m my A N C Z w ∧ Arg yo my cy y w ∧ Dul D my m (mzc N Z) k R ∧ D.nchk my y my = 0) := ⟨hD,ha,hY,hR,hk⟩
 have HC : Hid _ := hC
 have hn1 := ha.n1
 have hn := ha.n64
 have hkn := hR.le
 clear hD ha hY hR hC
 go_enter Tryz.func54,Tryz.ntmps54
 go_wp2_with fail
 rw [← hw0]
 clear hw0
 refine (cDual_ok HA.out.1 (HA.out.2.1.below HW.out.1) (fun wx hx => HC.out _ (bel_up' HW.out.1 hx))).mono ?_
 rintro x w1 ⟨k',R',ro,rc,rfl,hmv,hred,hb1⟩
 have hu := Dul.uniq (fld HA.out.1) HA.out.2.2.2.1 hred (fun v => Iff.rfl)
 obtain ⟨hu1,hu2⟩ := hu
 subst hu1
 obtain ⟨w2,hw2⟩ : ∃ w2,w2 = w1.alloc (.cells #[.int .i64 D.q, .int .i64 (my : Nat), .slice ro k rc] 25) := ⟨_,rfl⟩
 have H2 : Hid (Below w.heap.size w w2 ∧ CB w.heap.size D.q my (.slice ao m ca) w2 ∧ CB w1.heap.size D.q my (.slice ro k rc) w2 ∧ RL (.slice ro k rc) k my R w2) := by
   have hal : Below w1.heap.size w1 w2 := by rw [hw2]; exact (Below.refl _ _).alloc (Nat.le_refl _) _
   exact ⟨bel_up' (bel_up' HW.out.1 hb1) hal,(HW.out.2.keep hb1).keep hal,by rw [hw2]; exact CB.new _ _ _ _,(hmv.below hal).rl.congr (fun i hi => (hu2 i hi).symm)⟩
 obtain ⟨p0,p1,p2⟩ := HW.out.2.keep hb1
 have hlt0 : w.heap.size < w1.heap.size := cell_lt p0
 clear hmv hred hu2 hb1
 go_wp2_with fail
 rw [← hw2]
 clear hw2 p0 p1 p2
 refine (cnum_ok HA.out.1 (HA.out.2.2.1.below H2.out.1) HA.out.2.2.2.2).mono ?_
 rintro x w3 ⟨F,T,g,rfl,hat,hF,hT,hb3⟩
 have H3 : Hid (Below w.heap.size w w3 ∧ CB w1.heap.size D.q my (.slice ro k rc) w3 ∧ RL (.slice ro k rc) k my R w3 ∧ FAt F T D g w3 ∧ Sl yo my (zc my y) w3 ∧ LtB yo w3.heap.size) := by
   have hb := bel_up' H2.out.1 hb3
   have hA := HA.out.2.2.1.below hb
   exact ⟨hb,H2.out.2.2.1.keep hb3,H2.out.2.2.2.below hb3,hat,has_sl (nchk_ok HA.out.2.2.2.2).2 hA.sl,hA.lt⟩
 clear hat hF hT hb3
 obtain ⟨p0,p1,p2⟩ := H3.out.2.1
 have hltb : w1.heap.size < w3.heap.size := cell_lt p0
 go_wp2_with (at_make; refine make_int rfl _ _ rfl _ k rfl rfl (by omega) (by omega) ?_; intro w4 hown4 hgrow4; have hb4 : Below w3.heap.size w3 w4 := below_grown hgrow4 (Nat.le_refl _) (fun k hk => by simp at hk); have hcb4 := H3.out.2.1.keep hb4; obtain ⟨r0,r1,r2⟩ := hcb4)
 have H4 : Hid (Row w3.heap.size k pnil w4 ∧ Below w3.heap.size w3 w4) := ⟨row_zeros hown4,hb4⟩
 clear hown4 hgrow4 hb4 r0 r1 r2 p0 p1 p2
 obtain ⟨G,hG⟩ : ∃ G,G = w3.heap.size := ⟨_,rfl⟩
 rw [← hG] at H4 ⊢
 have hG0 : w3.heap.size ≤ G := by omega
 have HGe : Hid (G = w3.heap.size) := hG
 clear hG
 go_loopw [41] (fun vi wr => ∃ i : Nat,i ≤ k ∧ vi = .int .i64 i ∧ Hid (Row G k (syn D R (zc my y) my i 0) wr ∧ Below w3.heap.size w3 wr)) (fun vi _ => k - (intOf vi).toNat)
 case atStart => exact ⟨0,by omega,rfl,H4.out.1.congr (fun c _ => by unfold syn; rw [if_neg (by omega)]; split <;> rfl),by rw [HGe.out] at H4; exact H4.out.2⟩
 case round =>
   clear H4
   obtain ⟨i,hi,rfl,HG⟩ := hrel
   rename World => wA
   by_cases hlt : i < k
   · have hib : (i : Int) < (k : Int) := by omega
     have hib0 : (0 : Int) ≤ (i : Int) := by omega
     obtain ⟨ro',rc',ev,hrl⟩ := H3.out.2.2.1
     cases ev
     obtain ⟨bR,oR,xr,cx,hro,hcr3,hsr⟩ := hrl i hlt
     subst hro
     have hcr := ((bcell HG.out.2).1 bR (oR + i) (cell_lt hcr3)).trans hcr3
     have HS : Hid (Sl xr my (R i) w3 ∧ LtB xr w3.heap.size ∧ El D (R i)) := ⟨hsr,rl_lt hsr hn1,HA.out.2.2.2.1.rows.1 i hlt⟩
     clear hrl hsr hcr3
     go_wp2_with fail
     go_loopw [48] (fun vj wi => ∃ j : Nat,j ≤ my ∧ vj = .int .i64 j ∧ Hid (Row G k (syn D R (zc my y) my i j) wi ∧ Below w3.heap.size w3 wi)) (fun vj _ => my - (intOf vj).toNat)
     case atStart => exact ⟨0,by omega,rfl,HG.out.1,HG.out.2⟩
     case round =>
       clear hcr HG
       obtain ⟨j,hj,rfl,HJ⟩ := hrel
       rename World => wC
       by_cases hjn : j < my
       · have hjb : (j : Int) < (my : Int) := by omega
         have hjb0 : (0 : Int) ≤ (j : Int) := by omega
         have hb := HJ.out.2
         obtain ⟨bY,oY,hyo,hcy⟩ := (H3.out.2.2.2.2.1.below hb H3.out.2.2.2.2.2) j hjn
         subst hyo
         obtain ⟨bx,ox,hxr,hcx⟩ := (HS.out.1.below hb HS.out.2.1) j hjn
         subst hxr
         obtain ⟨x,hx⟩ : ∃ x,x = R i j := ⟨_,rfl⟩
         rw [← hx] at hcx
         obtain ⟨t,ht⟩ : ∃ t,t = zc my y j := ⟨_,rfl⟩
         rw [← ht] at hcy
         obtain ⟨u,hu⟩ : ∃ u,u = dot D (R i) (zc my y) j := ⟨_,rfl⟩
         have hco : wC.cell? ⟨G,i,none⟩ = some (.int .i64 (u : Nat)) := by
           have h := HJ.out.1.cell i hlt
           unfold syn at h
           rw [if_neg (by omega),if_pos rfl, ← hu] at h; exact h
         have hfo := HJ.out.1.free i
         obtain ⟨p,hp⟩ : ∃ p,p = D.mul x t := ⟨_,rfl⟩
         obtain ⟨v,hv⟩ : ∃ v,v = D.ad u p := ⟨_,rfl⟩
         have hatA := H3.out.2.2.2.1.below hb H3.out.2.2.2.1.ltF H3.out.2.2.2.1.ltT
         have F' := fld HA.out.1
         have HC1 : Hid (∀ d,Calls Tryz.prog 92 #[.pointer (some ⟨F,0,none⟩), .int .i64 (x : Nat), .int .i64 (t : Nat)] (wC.drewN d) fun e w' => e = .returned (.int .i64 (p : Nat)) ∧ ∃ k,w' = (wC.drewN d).drewN k) := fun d => by
           rw [hp]
           exact mul_nat HA.out.1 (hatA.drewN d) (by rw [hx]; exact HS.out.2.2 j) (by rw [ht]; exact zc_lt HA.out.2.2.2.2 hjn)
         have HC2 : Hid (∀ d,Calls Tryz.prog 91 #[.pointer (some ⟨F,0,none⟩), .int .i64 (u : Nat), .int .i64 (p : Nat)] (wC.drewN d) fun e w' => e = .returned (.int .i64 (v : Nat)) ∧ ∃ k,w' = (wC.drewN d).drewN k) := fun d => by
           rw [hv]
           exact add_nat HA.out.1 (hatA.drewN d) (by rw [hu]; exact dot_lt F' _ _ _) (by rw [hp]; exact F'.mul_lt _ _)
         have HV : Hid (Row G k (syn D R (zc my y) my i j) wC ∧ Below w3.heap.size w3 wC ∧ v = dot D (R i) (zc my y) (j + 1)) := ⟨HJ.out.1,HJ.out.2,by rw [hv,hp,hu,hx,ht]; rfl⟩
         clear hx ht hu hp hv hatA HJ hb F'
         go_wp2
         refine quiet_tail 16 (by kernel_rfl) (by kernel_rfl) ?_
         simp only [List.take_succ_cons,List.take_zero,List.drop_succ_cons,List.drop_zero]
         repeat (go_big_quiet_step (first | (go_at_call 92; exact Calls.quiet_of (HC1.out _)) | (go_at_call 91; exact Calls.quiet_of (HC2.out _))))
         refine wpQuiet_nil ?_
         intro _ hw'
         obtain ⟨nq,hw''⟩ := hw'
         subst hw''
         go_wp2
         go_roundw
         case rel =>
           refine ⟨j + 1,by omega,by go_num,(HV.out.1.drewN nq).store i v (fun c _ => ?_),(below_drewN2 HV.out.2.1 nq).setCell (show w3.heap.size ≤ G from hG0) _⟩
           unfold syn
           by_cases e : c = i
           · rw [if_pos e,if_neg (by omega),if_pos e,e]; exact HV.out.2.2.symm
           · rw [if_neg e,if_neg e,if_neg e]
         case measure => simp [intOf]; omega
       · have hjb : ¬ (j : Int) < (my : Int) := by omega
         have hje : my = j := by omega
         have HK2 : Hid (Row G k (syn D R (zc my y) my (i + 1) 0) wC) := HJ.out.1.congr (fun c hc => by
           unfold syn
           by_cases e : c < i
           · rw [if_pos e,if_pos (by omega)]
           · by_cases e2 : c = i
             · rw [if_neg e,if_pos e2,if_pos (by omega), ← hje]
             · rw [if_neg e,if_neg e2,if_neg (by omega)]; split <;> rfl)
         clear hje
         go_wp2
         go_roundw
         case rel => exact ⟨i + 1,by omega,by go_num,HK2.out,HJ.out.2⟩
         case measure => simp [intOf]; omega
   · have hib : ¬ (i : Int) < (k : Int) := by omega
     have hie : k = i := by omega
     subst hie
     have HZ : Hid (Below w.heap.size w wA ∧ Row G k (fun i => dot D (R i) (zc my y) my) wA ∧ w.heap.size ≤ G) := ⟨bel_up' H3.out.1 HG.out.2,HG.out.1.congr (fun c hc => by unfold syn; rw [if_pos hc]),by have := H3.out.1.size; omega⟩
     go_wp2
     go_ret2
     exact ⟨⟨G,k,by simp [go_sem],HZ.out.2.1,HZ.out.2.2,Nat.le_refl _,by omega⟩,HZ.out.1⟩
set_option maxHeartbeats 16000000 in
set_option maxRecDepth 100000 in
theorem cSyn_bad {D : FD} (hD : D ∈ fieldsL) {ao yo : Option Addr} {m n ca my cy k : Nat} {A : Nat → Option Addr} {N C : Nat → Nat} {Z : Nat → Nat → Int} {R : Nat → Nat → Nat} {y : Nat → Int} {w : World} (ha : CdZ D ao m n A N C Z w) (hY : Arg yo my cy y w) (hR : Dul D n m (mzc N Z) k R) (hk : D.nchk my y n ≠ 0)
   (hC : ∀ wx,Below w.heap.size w wx → Calls Tryz.prog 19 #[.agg #[.int .i64 D.q, .int .i64 (n : Nat), .slice ao m ca]] wx fun x w' => x = .returned (.int .i64 0) ∧ Below wx.heap.size wx w') :
   Calls Tryz.prog 54 #[.agg #[.int .i64 D.q, .int .i64 (n : Nat), .slice ao m ca], .slice yo my cy] w fun x w' => x = .returned (.tuple #[.slice none 0 0, .int .i64 (D.nchk my y n)]) ∧ Below w.heap.size w w' := by
 obtain ⟨w0,hw0⟩ : ∃ w0,w0 = w.alloc (.cells #[.int .i64 D.q, .int .i64 (n : Nat), .slice ao m ca] 25) := ⟨_,rfl⟩
 have HW : Hid (Below w.heap.size w w0 ∧ CB w.heap.size D.q n (.slice ao m ca) w0) := by
   rw [hw0]; exact ⟨(Below.refl _ _).alloc (Nat.le_refl _) _,CB.new _ _ _ _⟩
 have HA : Hid (D ∈ fieldsL ∧ CdZ D ao m n A N C Z w ∧ Arg yo my cy y w ∧ Dul D n m (mzc N Z) k R ∧ D.nchk my y n ≠ 0) := ⟨hD,ha,hY,hR,hk⟩
 have HC : Hid _ := hC
 have hn1 := ha.n1
 have hn := ha.n64
 have hkn := hR.le
 clear hD ha hY hR hC
 go_enter Tryz.func54,Tryz.ntmps54
 go_wp2_with fail
 rw [← hw0]
 clear hw0
 refine (cDual_ok HA.out.1 (HA.out.2.1.below HW.out.1) (fun wx hx => HC.out _ (bel_up' HW.out.1 hx))).mono ?_
 rintro x w1 ⟨k',R',ro,rc,rfl,hmv,hred,hb1⟩
 have hu := Dul.uniq (fld HA.out.1) HA.out.2.2.2.1 hred (fun v => Iff.rfl)
 obtain ⟨hu1,hu2⟩ := hu
 subst hu1
 obtain ⟨w2,hw2⟩ : ∃ w2,w2 = w1.alloc (.cells #[.int .i64 D.q, .int .i64 (n : Nat), .slice ro k rc] 25) := ⟨_,rfl⟩
 have H2 : Hid (Below w.heap.size w w2 ∧ CB w.heap.size D.q n (.slice ao m ca) w2 ∧ CB w1.heap.size D.q n (.slice ro k rc) w2 ∧ RL (.slice ro k rc) k n R w2) := by
   have hal : Below w1.heap.size w1 w2 := by rw [hw2]; exact (Below.refl _ _).alloc (Nat.le_refl _) _
   exact ⟨bel_up' (bel_up' HW.out.1 hb1) hal,(HW.out.2.keep hb1).keep hal,by rw [hw2]; exact CB.new _ _ _ _,(hmv.below hal).rl.congr (fun i hi => (hu2 i hi).symm)⟩
 obtain ⟨p0,p1,p2⟩ := HW.out.2.keep hb1
 have hlt0 : w.heap.size < w1.heap.size := cell_lt p0
 clear hmv hred hu2 hb1
 go_wp2_with fail
 rw [← hw2]
 clear hw2 p0 p1 p2
 obtain ⟨e,he⟩ : ∃ e,e = D.nchk my y n := ⟨_,rfl⟩
 have hz : (e != 0) = true := by rw [bne_iff_ne,he]; exact HA.out.2.2.2.2
 refine (cnum_err HA.out.1 (HA.out.2.2.1.below H2.out.1) HA.out.2.2.2.2).mono ?_
 rintro x w3 ⟨rfl,hb3⟩
 have H3 : Hid (Below w.heap.size w w3) := bel_up' H2.out.1 hb3
 rw [← he]
 have HQ : Hid (e = D.nchk my y n) := he
 clear hb3 he
 go_wp2
 go_ret2
 exact ⟨by rw [← HQ.out]; simp [go_sem],H3.out⟩
set_option maxHeartbeats 4000000 in
set_option maxRecDepth 100000 in
theorem cSyn_err (e : Int) (he : e ≠ 0) (q n : Int) {ao yo : Option Addr} {m ca my cy : Nat} {w : World}
   (hC : ∀ wx,Below w.heap.size w wx → Calls Tryz.prog 19 #[.agg #[.int .i64 q, .int .i64 n, .slice ao m ca]] wx fun x w' => x = .returned (.int .i64 e) ∧ Below wx.heap.size wx w') :
   Calls Tryz.prog 54 #[.agg #[.int .i64 q, .int .i64 n, .slice ao m ca], .slice yo my cy] w fun x w' => x = .returned (.tuple #[.slice none 0 0, .int .i64 e]) ∧ Below w.heap.size w w' := by
 obtain ⟨w0,hw0⟩ : ∃ w0,w0 = w.alloc (.cells #[.int .i64 q, .int .i64 n, .slice ao m ca] 25) := ⟨_,rfl⟩
 have HW : Hid (Below w.heap.size w w0 ∧ CB w.heap.size q n (.slice ao m ca) w0) := by
   rw [hw0]; exact ⟨(Below.refl _ _).alloc (Nat.le_refl _) _,CB.new _ _ _ _⟩
 have HC : Hid _ := hC
 have HE : Hid (e ≠ 0) := he
 have hz : (e != 0) = true := by rw [bne_iff_ne]; exact he
 clear he hC
 go_enter Tryz.func54,Tryz.ntmps54
 go_wp2_with fail
 rw [← hw0]
 clear hw0
 refine (cDual_err e HE.out q n (fun wx hx => HC.out _ (bel_up' HW.out.1 hx))).mono ?_
 rintro x w1 ⟨rfl,hb1⟩
 obtain ⟨w2,hw2⟩ : ∃ w2,w2 = w1.alloc (.cells #[.int .i64 0, .int .i64 0, .slice none 0 0] 25) := ⟨_,rfl⟩
 have H2 : Hid (Below w.heap.size w w2) := bel_up' (bel_up' HW.out.1 hb1) (by rw [hw2]; exact (Below.refl _ _).alloc (Nat.le_refl _) _)
 clear hb1
 go_wp2
 rw [← hw2]
 go_ret2
 exact ⟨by simp [go_sem],H2.out⟩
set_option maxHeartbeats 4000000 in
set_option maxRecDepth 100000 in
theorem cHas_err (e : Int) (he : e ≠ 0) (q n : Int) {ao yo : Option Addr} {m ca my cy : Nat} {w : World}
   (hS : ∀ wx,Below w.heap.size w wx → Calls Tryz.prog 54 #[.agg #[.int .i64 q, .int .i64 n, .slice ao m ca], .slice yo my cy] wx fun x w' => x = .returned (.tuple #[.slice none 0 0, .int .i64 e]) ∧ Below wx.heap.size wx w') :
   Calls Tryz.prog 55 #[.agg #[.int .i64 q, .int .i64 n, .slice ao m ca], .slice yo my cy] w fun x w' => x = .returned (.tuple #[.bool false, .int .i64 e]) ∧ Below w.heap.size w w' := by
 obtain ⟨w0,hw0⟩ : ∃ w0,w0 = w.alloc (.cells #[.int .i64 q, .int .i64 n, .slice ao m ca] 25) := ⟨_,rfl⟩
 have HW : Hid (Below w.heap.size w w0) := by rw [hw0]; exact (Below.refl _ _).alloc (Nat.le_refl _) _
 have HS : Hid _ := hS
 have hz : (e == 0) = false := by rw [beq_eq_false_iff_ne]; exact he
 clear he hS
 go_enter Tryz.func55,Tryz.ntmps55
 go_wp2_with fail
 rw [← hw0]
 clear hw0
 refine (HS.out _ HW.out).mono ?_
 rintro x w1 ⟨rfl,hb1⟩
 have H1 : Hid (Below w.heap.size w w1) := bel_up' HW.out hb1
 clear hb1
 go_wp2
 go_ret2
 exact ⟨by simp [go_sem],H1.out⟩
theorem slz_of {ao : Option Addr} {n : Nat} {a : Nat → Nat} {w : World} (h : Sl ao n a w) : SlZ ao n (fun i => ((a i : Nat) : Int)) w := h
set_option maxHeartbeats 4000000 in
set_option maxRecDepth 100000 in
theorem cHas_ok (q n : Int) {ao yo : Option Addr} {m ca my cy k : Nat} {v : Nat → Nat} {w : World} (hk : k ≤ 1000)
   (hS : ∀ wx,Below w.heap.size w wx → Calls Tryz.prog 54 #[.agg #[.int .i64 q, .int .i64 n, .slice ao m ca], .slice yo my cy] wx fun x w' => LstP wx.heap.size k v x w' ∧ Below wx.heap.size wx w') :
   Calls Tryz.prog 55 #[.agg #[.int .i64 q, .int .i64 n, .slice ao m ca], .slice yo my cy] w fun x w' => x = .returned (.tuple #[.bool (decide (ct (fun i => !decide (((v i : Nat) : Int) = 0)) k = 0)), .int .i64 0]) ∧ Below w.heap.size w w' := by
 obtain ⟨w0,hw0⟩ : ∃ w0,w0 = w.alloc (.cells #[.int .i64 q, .int .i64 n, .slice ao m ca] 25) := ⟨_,rfl⟩
 have HW : Hid (Below w.heap.size w w0) := by rw [hw0]; exact (Below.refl _ _).alloc (Nat.le_refl _) _
 have HS : Hid _ := hS
 obtain ⟨t,ht⟩ : ∃ t,t = ct (fun i => !decide (((v i : Nat) : Int) = 0)) k := ⟨_,rfl⟩
 obtain ⟨b,hb⟩ : ∃ b,b = decide (t = 0) := ⟨_,rfl⟩
 rw [← ht, ← hb]
 have hz : (((t : Nat) : Int) == 0) = b := by
   rw [hb]
   by_cases h : t = 0
   · rw [h]; rfl
   · rw [decide_eq_false h,beq_eq_false_iff_ne]; omega
 have HT : Hid (t = ct (fun i => !decide (((v i : Nat) : Int) = 0)) k) := ht
 clear hS ht hb
 go_enter Tryz.func55,Tryz.ntmps55
 go_wp2_with fail
 rw [← hw0]
 clear hw0
 refine (HS.out _ HW.out).mono ?_
 rintro x w1 ⟨⟨gr,c,rfl,hrow,hg,hc,_⟩,hb1⟩
 have H1 : Hid (Below w.heap.size w w1 ∧ Row gr k v w1) := ⟨bel_up' HW.out hb1,hrow⟩
 have HWt : Hid (∀ cc,Calls Tryz.prog 21 #[.slice (some ⟨gr,0,none⟩) k cc] w1 fun e w' => e = .returned (.int .i64 (t : Nat)) ∧ Below w1.heap.size w1 w') := fun cc => by
   rw [HT.out]
   exact weight_any (slz_of (H1.out.2.sl (Nat.le_refl _))) (by intro x hx; cases hx; exact H1.out.2.lt) hk
 clear hb1 hrow hg hc
 go_wp2_with fail
 refine (HWt.out _).mono ?_
 rintro x w2 ⟨rfl,hb2⟩
 have H2 : Hid (Below w.heap.size w w2) := bel_up' H1.out.1 hb2
 clear hb2
 go_wp2
 go_ret2
 exact ⟨by simp [go_sem],H2.out⟩
theorem three_codes (q1 n1 q2 n2 q3 n3 : Int) (v1 v2 v3 : Value) (w : World) : ∀ w0,w0 = ((w.alloc (.cells #[.int .i64 q1, .int .i64 n1,v1] 25)).alloc (.cells #[.int .i64 q2, .int .i64 n2,v2] 25)).alloc (.cells #[.int .i64 q3, .int .i64 n3,v3] 25) → Below w.heap.size w w0 ∧ CB w.heap.size q1 n1 v1 w0 ∧ CB (w.heap.size + 1) q2 n2 v2 w0 ∧ CB (w.heap.size + 1 + 1) q3 n3 v3 w0 ∧ w0.heap.size = w.heap.size + 3 := by
 rintro w0 rfl
 obtain ⟨h1,h2,h3,h4⟩ := two_boxes q1 n1 q2 n2 v1 v2 w
 have h5 := CB.new q3 n3 v3 ((w.alloc (.cells #[.int .i64 q1, .int .i64 n1,v1] 25)).alloc (.cells #[.int .i64 q2, .int .i64 n2,v2] 25))
 rw [h4] at h5
 have hbl : Below ((w.alloc (.cells #[.int .i64 q1, .int .i64 n1,v1] 25)).alloc (.cells #[.int .i64 q2, .int .i64 n2,v2] 25)).heap.size ((w.alloc (.cells #[.int .i64 q1, .int .i64 n1,v1] 25)).alloc (.cells #[.int .i64 q2, .int .i64 n2,v2] 25)) (((w.alloc (.cells #[.int .i64 q1, .int .i64 n1,v1] 25)).alloc (.cells #[.int .i64 q2, .int .i64 n2,v2] 25)).alloc (.cells #[.int .i64 q3, .int .i64 n3,v3] 25)) := (Below.refl _ _).alloc (Nat.le_refl _) _
 exact ⟨bel_up' h1 hbl,h2.keep hbl,h3.keep hbl,h5,by simp⟩
set_option maxHeartbeats 8000000 in
set_option maxRecDepth 100000 in
theorem codeWord_err (e : Int) (he : e ≠ 0) (q n : Int) {ao yo zo : Option Addr} {m ca my cy mz cz : Nat} {w : World}
   (hFl : ∀ wx,Calls Tryz.prog 27 #[.int .i64 q] wx fun x w' => ∃ (a0 a1 a2 a3 : Int) (fo : Option Addr) (fl fc : Nat) (er : Int),x = .returned (.tuple #[.agg #[.int .i64 a0, .int .i64 a1, .int .i64 a2, .int .i64 a3, .slice fo fl fc], .int .i64 er]) ∧ Below wx.heap.size wx w')
   (hE : ∀ wx,Below w.heap.size w wx → Calls Tryz.prog 52 #[.agg #[.int .i64 q, .int .i64 n, .slice ao m ca], .slice yo my cy] wx fun x w' => x = .returned (.tuple #[.slice none 0 0, .int .i64 e]) ∧ Below wx.heap.size wx w')
   (hS : ∀ wx,Below w.heap.size w wx → Calls Tryz.prog 54 #[.agg #[.int .i64 q, .int .i64 n, .slice ao m ca], .slice zo mz cz] wx fun x w' => x = .returned (.tuple #[.slice none 0 0, .int .i64 e]) ∧ Below wx.heap.size wx w')
   (hH : ∀ wx,Below w.heap.size w wx → Calls Tryz.prog 55 #[.agg #[.int .i64 q, .int .i64 n, .slice ao m ca], .slice zo mz cz] wx fun x w' => x = .returned (.tuple #[.bool false, .int .i64 e]) ∧ Below wx.heap.size wx w') :
   Calls Tryz.prog 25 #[.agg #[.int .i64 q, .int .i64 n, .slice ao m ca], .agg #[.int .i64 0, .int .i64 0, .slice none 0 0], .agg #[.int .i64 0, .int .i64 0, .slice none 0 0], .slice yo my cy, .slice zo mz cz, .int .i64 e] w fun r w' => r = .returned (.bool true) ∧ Below w.heap.size w w' := by
 obtain ⟨w0,hw0⟩ : ∃ w0,w0 = ((w.alloc (.cells #[.int .i64 q, .int .i64 n, .slice ao m ca] 25)).alloc (.cells #[.int .i64 0, .int .i64 0, .slice none 0 0] 25)).alloc (.cells #[.int .i64 0, .int .i64 0, .slice none 0 0] 25) := ⟨_,rfl⟩
 have HW : Hid (Below w.heap.size w w0 ∧ CB w.heap.size q n (.slice ao m ca) w0 ∧ CB (w.heap.size + 1 + 1) 0 0 (.slice none 0 0) w0) := by
   obtain ⟨h1,h2,h3,h4,h5⟩ := three_codes q n 0 0 0 0 (.slice ao m ca) (.slice none 0 0) (.slice none 0 0) w w0 hw0
   exact ⟨h1,h2,h4⟩
 have HFl : Hid _ := hFl
 have HE : Hid _ := hE
 have HS : Hid _ := hS
 have HH : Hid _ := hH
 have HN : Hid (e ≠ 0) := he
 have hz : (e == 0) = false := by rw [beq_eq_false_iff_ne]; exact he
 have hz2 : (e == e) = true := by simp
 clear he hFl hE hS hH
 go_enter Tryz.func25,Tryz.ntmps25
 go_wp2_with fail
 rw [← hw0]
 clear hw0
 refine (HFl.out _).mono ?_
 rintro x w1 ⟨a0,a1,a2,a3,fo,fl,fc,er,rfl,hb1⟩
 obtain ⟨wa,hwa⟩ : ∃ wa,wa = w1.alloc (.cells #[.int .i64 a0, .int .i64 a1, .int .i64 a2, .int .i64 a3, .slice fo fl fc] 48) := ⟨_,rfl⟩
 have HA : Hid (Below w.heap.size w wa ∧ CB w.heap.size q n (.slice ao m ca) wa ∧ CB (w.heap.size + 1 + 1) 0 0 (.slice none 0 0) wa) := by
   have hb : Below w1.heap.size w1 wa := by rw [hwa]; exact (Below.refl _ _).alloc (Nat.le_refl _) _
   have hbb := bel_up' hb1 hb
   exact ⟨bel_up' HW.out.1 hbb,HW.out.2.1.keep hbb,HW.out.2.2.keep hbb⟩
 obtain ⟨p0,p1,p2⟩ := HW.out.2.1.keep hb1
 have hlt0 : w.heap.size < w1.heap.size := cell_lt p0
 clear hb1
 go_wp2_with fail
 rw [← hwa]
 clear hwa p0 p1 p2
 refine (HE.out _ HA.out.1).mono ?_
 rintro x w2 ⟨rfl,hb2⟩
 have H2 : Hid (Below w.heap.size w w2 ∧ CB w.heap.size q n (.slice ao m ca) w2 ∧ CB (w.heap.size + 1 + 1) 0 0 (.slice none 0 0) w2) := ⟨bel_up' HA.out.1 hb2,HA.out.2.1.keep hb2,HA.out.2.2.keep hb2⟩
 clear hb2
 go_wp2_with fail
 refine (list_err2 e HN.out none 0 (.slice none 0 0) w2).mono ?_
 rintro x w' ⟨rfl,hw⟩
 have hw := hw.symm
 subst hw
 go_wp2_with fail
 obtain ⟨p0,p1,p2⟩ := H2.out.2.1
 obtain ⟨s0,s1,s2⟩ := H2.out.2.2
 refine wp_loop_rounds 1 ?_
 rw [rounds_succ]
 go_wp2_with fail
 refine (HS.out _ H2.out.1).mono ?_
 rintro x w3 ⟨rfl,hb3⟩
 have H3 : Hid (Below w.heap.size w w3 ∧ CB w.heap.size q n (.slice ao m ca) w3) := ⟨bel_up' H2.out.1 hb3,H2.out.2.1.keep hb3⟩
 clear hb3 p0 p1 p2 s0 s1 s2
 obtain ⟨p0,p1,p2⟩ := H3.out.2
 go_wp2_with fail
 refine (HH.out _ H3.out.1).mono ?_
 rintro x w4 ⟨rfl,hb4⟩
 have H4 : Hid (Below w.heap.size w w4) := bel_up' H3.out.1 hb4
 clear hb4 p0 p1 p2
 go_wp2_with fail
 refine (list_err2 e HN.out none 0 (.slice none 0 0) w4).mono ?_
 rintro x w' ⟨rfl,hw⟩
 have hw := hw.symm
 subst hw
 go_wp2
 go_ret
 exact ⟨by first | rfl | simp [go_sem],H4.out⟩
end Go.Proofs.YtinmkgohganllaaGreatDoor
