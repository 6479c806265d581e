/- Texts of ours, one behind the other: KT8 KT9 S71 KT11 KT12 KT13 S72 S73 KT14 KT15 KT17. -/
import Derived.Test.YtppggchhkckobaaGreatZKT3
import Derived.Test.YtppggchhkckobaaGreatZS68
import Derived.Test.YtppggchhkckobaaGreatZA1
import Derived.BigQuiet
import Derived.Test.YtppggchhkckobaaGreatZI27
import Derived.Test.YtppggchhkckobaaGreatZW13
namespace Go.Proofs.YtppggchhkckobaaGreat
open Go.RowKit Go.Sort
structure Szo (E : FD) (n : Nat) : Prop where
 fld : E ∈ fieldsL
 n1 : 1 ≤ n
 n64 : n ≤ 64
 p : n % E.p ≠ 0
 rt : ¬ WRn E n
theorem Szo.cyc {E : FD} {n : Nat} (h : Szo E n) : cyc E (n : Int) = 0 := by
 have h1 := h.n1
 have h2 := h.n64
 unfold Go.Proofs.YtppggchhkckobaaGreat.cyc
 rw [if_neg (by omega),Int.toNat_natCast,if_neg h.p]
theorem least_ex {P : Nat → Prop} : ∀ n,P n → ∃ i,P i ∧ ∀ j,j < i → ¬ P j := by
 intro n
 induction n using Nat.strongRecOn with
 | ind n ih =>
   intro h
   by_cases c : ∃ j,j < n ∧ P j
   · obtain ⟨j,hj,hP⟩ := c
     exact ih j hj hP
   · exact ⟨n,h,fun j hj hP => c ⟨j,hj,hP⟩⟩
theorem fd_q {D D' : FD} (h : D ∈ fieldsL) (h' : D' ∈ fieldsL) (e : D.q = D'.q) : D = D' := by
 have k : (fieldsL.all fun A => fieldsL.all fun B => !(A.q == B.q) || (A.q == B.q && A.p == B.p && A.m == B.m && A.low == B.low && A.gen == B.gen)) = true := by decide +kernel
 have k := List.all_eq_true.1 (List.all_eq_true.1 k D h) D' h'
 rw [e] at k
 simp only [beq_self_eq_true,Bool.not_true,Bool.false_or,Bool.and_eq_true,beq_iff_eq,Bool.true_and] at k
 cases D
 cases D'
 simp_all
theorem pow_small {q i : Nat} (hq : 2 ≤ q) (h : q ^ (i + 1) ≤ 64) : i < 7 := by
 refine Classical.byContradiction fun c => ?_
 have h1 : 2 ^ 7 ≤ 2 ^ (i + 1) := Nat.pow_le_pow_right (by omega) (by omega)
 have h2 : 2 ^ (i + 1) ≤ q ^ (i + 1) := Nat.pow_le_pow_left hq _
 omega
theorem Szo.wr {E : FD} {n : Nat} (h : Szo E n) : ∃ G,WR E n G ∧ ∀ w1,Calls Tryz.prog 36 #[.int .i64 E.q, .int .i64 (n : Nat)] w1 fun e w' => ∃ F T g,e = .returned (.tuple #[.pointer (some ⟨F,0,none⟩), .int .i64 0]) ∧ FAt F T G g w' ∧ Below w1.heap.size w1 w' := by
 have hq2 := (Go.Proofs.YtppggchhkckobaaGreat.fld h.fld).q2
 obtain ⟨i0,hi0⟩ : ∃ i,E.q ^ (i + 1) ≤ 64 ∧ (E.q ^ (i + 1) - 1) % n = 0 := by
   refine Classical.byContradiction fun c => h.rt (fun i hi e => c ⟨i,hi,e⟩)
 obtain ⟨i,hi,hl⟩ := least_ex (P := fun i => E.q ^ (i + 1) ≤ 64 ∧ (E.q ^ (i + 1) - 1) % n = 0) i0 hi0
 obtain ⟨G,hG,hGq,hGo⟩ := fld_of_pow h.fld (pow_small hq2 hi.1) hi.1
 have hlst : ∀ j,j < i → (E.q ^ (j + 1) - 1) % n ≠ 0 := fun j hj e => hl j hj ⟨Nat.le_trans (Nat.pow_le_pow_right (by omega) (by omega)) hi.1,e⟩
 refine ⟨G,⟨hG,hGo,by rw [hGq]; exact hi.2,i,hGq,hlst⟩,fun w1 => (withRoot_any h.fld h.n1 h.n64 w1).mono ?_⟩
 rintro e w' (⟨G',F,T,g,rfl,hW,hF,_,_,hb⟩ | ⟨_,hn,_⟩)
 · obtain ⟨i',e',l'⟩ := hW.least
   have hii : i' = i := by
     rcases Nat.lt_trichotomy i' i with c | c | c
     · exact absurd (by rw [← e']; exact hW.root) (hlst i' c)
     · exact c
     · exact absurd hi.2 (l' i c)
   have hGG : G' = G := fd_q hW.fld hG (by rw [e',hGq,hii])
   subst hGG
   exact ⟨F,T,g,rfl,hF,hb⟩
 · exact absurd hn h.rt
theorem co_cl {q n : Nat} {S : List Nat} (ho : Ord q n) (hc : Clq q n S) : Clq q n ((List.range n).filter fun k => !S.contains k) := fun k hk => by
 obtain ⟨i,hi⟩ := ho.inv
 obtain ⟨h1,h2⟩ := List.mem_filter.1 hk
 have hkn := List.mem_range.1 h1
 refine List.mem_filter.2 ⟨List.mem_range.2 (Nat.mod_lt _ (by omega)), ?_⟩
 cases hh : S.contains (k * q % n) with
 | false => rfl
 | true =>
   have hm := List.contains_iff_mem.1 hh
   have hk2 := hc.orb hm (Nat.mod_lt _ (by omega)) i
   rw [(hi k hkn).1] at hk2
   rw [List.contains_iff_mem.2 hk2] at h2
   cases h2
theorem co_perm {n : Nat} {S : List Nat} (hd : S.Nodup) (hl : ∀ k ∈ S,k < n) : (((List.range n).filter fun k => !S.contains k) ++ S).Perm (List.range n) := by
 refine (List.perm_ext_iff_of_nodup ?_ List.nodup_range).2 (fun a => ?_)
 · rw [List.nodup_append]
   refine ⟨List.nodup_range.filter _,hd,fun a ha b hb e => ?_⟩
   rw [e] at ha
   have := (List.mem_filter.1 ha).2
   rw [List.contains_iff_mem.2 hb] at this
   cases this
 · rw [List.mem_append,List.mem_filter,List.mem_range]
   constructor
   · rintro (h | h)
     · exact h.1
     · exact hl a h
   · intro h
     cases hh : S.contains a with
     | false => exact Or.inl ⟨h,rfl⟩
     | true => exact Or.inr (List.contains_iff_mem.1 hh)
theorem bel_drN {B k : Nat} {w w' : World} (h : Below B w w') : Below B w (w'.drewN k) := ⟨h.os,h.tape,h.output,h.size,h.block⟩
set_option maxHeartbeats 2000000 in
set_option maxRecDepth 100000 in
theorem cdiv_any {a b : Nat} (ha : a ≤ 1000) (hb : b ≤ 1000) (w : World) :
   Calls Tryz.prog 49 #[.int .i64 (a : Nat), .int .i64 (b : Nat)] w fun e w' => e = .returned (.int .i64 (Nat.gcd a b : Nat)) ∧ Below w.heap.size w w' := by
 obtain ⟨G,hG⟩ : ∃ G,G = Nat.gcd a b := ⟨_,rfl⟩
 rw [← hG]
 go_enter Tryz.func49,Tryz.ntmps49
 go_wp2
 go_loopw [0,1] (fun va vb wr => ∃ a' b' : Nat,va = .int .i64 (a' : Nat) ∧ vb = .int .i64 (b' : Nat) ∧ a' ≤ 1000 ∧ b' ≤ 1000 ∧ Hid (Nat.gcd a' b' = G ∧ Below w.heap.size w wr)) (fun _ vb _ => (intOf vb).toNat)
 case atStart => exact ⟨a,b,rfl,rfl,ha,hb,hG.symm,Below.refl _ _⟩
 case round =>
   obtain ⟨a',b',rfl,rfl,h1,h2,HG⟩ := hrel
   rename World => wr
   clear hG ha hb
   by_cases hlt : 0 < b'
   · have hib : (b' : Int) > 0 := by omega
     have hib2 : (0 : Int) < (b' : Int) := by omega
     have hn0 : ¬ (b' : Int) = 0 := by omega
     have hn0b : ((b' : Int) == 0) = false := by rw [beq_eq_false_iff_ne]; omega
     obtain ⟨r,hr⟩ : ∃ r,r = a' % b' := ⟨_,rfl⟩
     have hrl : r < b' := by rw [hr]; exact Nat.mod_lt _ hlt
     have hrm : (a' : Int).tmod (b' : Int) = (r : Int) := by rw [Int.tmod_eq_emod_of_nonneg (by omega),hr]; omega
     have hre : (a' : Int) % (b' : Int) = (r : Int) := by rw [hr]; omega
     have hrw : IntKind.i64.wrap (r : Int) = (r : Int) := wrap_to rfl (by omega)
     have HN : Hid (Nat.gcd b' r = G) := by
       show _ = _
       rw [← HG.out.1,hr,Nat.gcd_comm a' b',Nat.gcd_comm b' (a' % b')]
       exact (Nat.gcd_rec b' a').symm
     clear hr
     go_wp2
     go_quiet (fail)
     go_wp2
     go_roundw
     case rel => exact ⟨b',r,rfl,rfl,by omega,by omega,HN.out,bel_drN HG.out.2⟩
     case measure => simp [intOf]; omega
   · have hib : ¬ (b' : Int) > 0 := by omega
     have hib2 : ¬ (0 : Int) < (b' : Int) := by omega
     have HN : Hid (a' = G) := by
       show _ = _
       rw [← HG.out.1,show b' = 0 by omega,Nat.gcd_zero_right]
     go_wp2
     go_ret
     obtain rfl := HN.out
     exact ⟨rfl,HG.out.2⟩
def rrun (p : Nat → Bool) : Nat → Nat
 | 0 => 0
 | N + 1 => if rrun p N = N ∧ p N = true then N + 1 else rrun p N
theorem rrun_le (p : Nat → Bool) : ∀ N,rrun p N ≤ N
 | 0 => Nat.le_refl _
 | N + 1 => by
   have := rrun_le p N
   unfold rrun
   split <;> omega
theorem rrun_all {p : Nat → Bool} : ∀ N,(∀ i,i < N → p i = true) → rrun p N = N
 | 0,_ => rfl
 | N + 1,h => by
   unfold rrun
   rw [if_pos ⟨rrun_all N (fun i hi => h i (by omega)),h N (by omega)⟩]
theorem rrun_is {p : Nat → Bool} {r : Nat} (ha : ∀ i,i < r → p i = true) : ∀ N,r ≤ N → (r = N ∨ p r = false) → rrun p N = r := by
 intro N
 induction N with
 | zero => intro h _; have : r = 0 := by omega
           rw [this]; rfl
 | succ N ih =>
   intro h hr
   rcases hr with e | e
   · rw [e]; exact rrun_all _ (fun i hi => ha i (by omega))
   · by_cases c : r = N + 1
     · rw [c]; exact rrun_all _ (fun i hi => ha i (by omega))
     · have hN := ih (by omega) (Or.inr e)
       unfold rrun
       rw [hN,if_neg]
       rintro ⟨h1,h2⟩
       rw [h1,h2] at e; cases e
def mxn (f : Nat → Nat) : Nat → Nat
 | 0 => 0
 | k + 1 => max (mxn f k) (f k)
theorem mxn_le {f : Nat → Nat} {B : Nat} : ∀ k,(∀ i,i < k → f i ≤ B) → mxn f k ≤ B
 | 0,_ => Nat.zero_le _
 | k + 1,h => by
   have h1 := mxn_le k (fun i hi => h i (by omega))
   have h2 := h k (by omega)
   show max _ _ ≤ B
   omega
def iar (n step : Nat) (p : Nat → Bool) : Nat := mxn (fun f => rrun (fun i => p ((f + i * step) % n)) n) n
theorem iar_le (n step : Nat) (p : Nat → Bool) : iar n step p ≤ n := mxn_le n (fun _ _ => rrun_le _ _)
end Go.Proofs.YtppggchhkckobaaGreat
namespace Go.Proofs.YtppggchhkckobaaGreat
open Go.RowKit Go.Sort Go.Maps
set_option maxHeartbeats 4000000 in
set_option maxRecDepth 100000 in
theorem iar_any {gf : Nat} {lb : Array Value} (eg : ∀ args w, (callFunc gf args).run Tryz.prog w = .ok (.enter gf args) w) {n step : Nat} {p : Nat → Bool} (hn1 : 1 ≤ n) (hn : n ≤ 64) (hs : step ≤ 64) {w : World}
   (hcall : ∀ x : Nat,x < n → Calls Tryz.prog gf (#[.int .i64 (x : Nat)] ++ lb) w fun e w' => e = .returned (.bool (p x)) ∧ w' = w) :
   Calls Tryz.prog 50 #[.int .i64 (n : Nat), .int .i64 (step : Nat), .func (.func gf) #[] lb] w fun e w' => e = .returned (.int .i64 (iar n step p : Nat)) ∧ w' = w := by
 have HC : Hid (∀ x : Nat,x < n → Calls Tryz.prog gf (#[.int .i64 (x : Nat)] ++ lb) w fun e w' => e = .returned (.bool (p x)) ∧ w' = w) := hcall
 obtain ⟨F,hF⟩ : ∃ F : Nat → Nat,F = fun f => rrun (fun i => p ((f + i * step) % n)) n := ⟨_,rfl⟩
 have HF : Hid (F = fun f => rrun (fun i => p ((f + i * step) % n)) n) := hF
 have hiar : iar n step p = mxn F n := by rw [hF]; rfl
 rw [hiar]
 clear hiar hF hcall
 have HFn : Hid (∀ f,F f ≤ n) := fun f => by rw [HF.out]; exact rrun_le _ _
 go_enter Tryz.func50,Tryz.ntmps50
 go_wp2
 go_loopw [7,11] (fun vm vf wr => ∃ f : Nat,f ≤ n ∧ vf = .int .i64 (f : Nat) ∧ vm = .int .i64 (mxn F f : Nat) ∧ Hid (wr = w)) (fun _ vf _ => n - (intOf vf).toNat)
 case atStart => exact ⟨0,by omega,rfl,rfl,rfl⟩
 case round =>
   obtain ⟨f,hf,rfl,rfl,HW⟩ := hrel
   rename World => wr
   obtain ⟨m0,hm0⟩ : ∃ m0,m0 = mxn F f := ⟨_,rfl⟩
   have hm0n : m0 ≤ 64 := by rw [hm0]; have := mxn_le (f := F) (B := n) f (fun i _ => HFn.out i); omega
   by_cases hlt : f < n
   · have hib : (f : Int) < (n : Int) := by omega
     rw [← hm0]
     have HM : Hid (m0 = mxn F f) := hm0
     clear hm0
     go_wp2
     go_loopw [9] (fun vr wx => ∃ r : Nat,r ≤ n ∧ vr = .int .i64 (r : Nat) ∧ Hid ((∀ i,i < r → p ((f + i * step) % n) = true) ∧ wx = w)) (fun vr _ => n - (intOf vr).toNat)
     case atStart => exact ⟨0,by omega,rfl,fun i hi => absurd hi (by omega),HW.out⟩
     case round =>
       obtain ⟨r,hr,rfl,HI⟩ := hrel
       rename World => wx
       by_cases hrn : r < n
       · have hrb : (r : Int) < (n : Int) := by omega
         obtain ⟨t,ht⟩ : ∃ t,t = r * step := ⟨_,rfl⟩
         have hti : (r : Int) * (step : Int) = (t : Int) := by rw [ht]; simp
         have htb : t ≤ 4096 := by rw [ht]; exact Nat.le_trans (Nat.mul_le_mul (show r ≤ 64 by omega) hs) (by decide)
         have htw : IntKind.i64.wrap (t : Int) = (t : Int) := wrap_to rfl (by omega)
         obtain ⟨u,hu⟩ : ∃ u,u = f + t := ⟨_,rfl⟩
         have hui : (f : Int) + (t : Int) = (u : Int) := by omega
         have huw : IntKind.i64.wrap (u : Int) = (u : Int) := wrap_to rfl (by omega)
         obtain ⟨x,hx⟩ : ∃ x,x = u % n := ⟨_,rfl⟩
         have hxn : x < n := by rw [hx]; exact Nat.mod_lt _ (by omega)
         have hrm : (u : Int).tmod (n : Int) = (x : Int) := by rw [Int.tmod_eq_emod_of_nonneg (by omega),hx]; omega
         have hre : (u : Int) % (n : Int) = (x : Int) := by rw [hx]; omega
         have hn0 : ¬ (n : Int) = 0 := by omega
         have hn0b : ((n : Int) == 0) = false := by rw [beq_eq_false_iff_ne]; omega
         have HX : Hid (x = (f + r * step) % n) := by show _ = _; rw [hx,hu,ht]
         have HWx : Hid (wx = w) := HI.out.2
         have hww := HI.out.2
         subst hww
         clear ht hu hx
         cases hp : p x with
         | true =>
           have HP : Hid (p ((f + r * step) % n) = true) := by rw [← HX.out]; exact hp
           have HCx : Hid (Calls Tryz.prog gf (#[.int .i64 (x : Nat)] ++ lb) wx fun e w' => e = .returned (.bool true) ∧ w' = wx) := by
             have h := HC.out x hxn
             rw [hp] at h
             exact h
           clear hp
           go_wp2_with fail
           refine HCx.out.mono ?_
           rintro e w1 ⟨rfl,hw1⟩
           have hw1 := hw1.symm
           subst hw1
           go_wp2
           go_roundw
           case rel => exact ⟨r + 1,by omega,by go_num,fun i hi => (by
             by_cases c : i = r
             · rw [c]; exact HP.out
             · exact HI.out.1 i (by omega)),by first | rfl | trivial⟩
           case measure => simp [intOf]; omega
         | false =>
           have HP : Hid (F f = r) := by
             show _ = _
             rw [HF.out]
             exact rrun_is (fun i hi => HI.out.1 i hi) n hr (Or.inr (by show p ((f + r * step) % n) = false; rw [← HX.out]; exact hp))
           have HMx : Hid (max (m0 : Int) (r : Int) = ((mxn F (f + 1) : Nat) : Int)) := by
             show _ = ((max (mxn F f) (F f) : Nat) : Int)
             rw [← HM.out,HP.out]; omega
           clear HM HP
           have HCx : Hid (Calls Tryz.prog gf (#[.int .i64 (x : Nat)] ++ lb) wx fun e w' => e = .returned (.bool false) ∧ w' = wx) := by
             have h := HC.out x hxn
             rw [hp] at h
             exact h
           clear hp
           go_wp2_with fail
           refine HCx.out.mono ?_
           rintro e w1 ⟨rfl,hw1⟩
           have hw1 := hw1.symm
           subst hw1
           go_wp2
           go_roundw
           case rel => exact ⟨f + 1,by omega,by go_num,by rw [HMx.out],by first | trivial | rfl | exact HI.out.2⟩
           case measure => simp [intOf]; omega
       · have hrb : ¬ (r : Int) < (n : Int) := by omega
         have HP : Hid (F f = r) := by
           show _ = _
           rw [HF.out]
           exact rrun_is (fun i hi => HI.out.1 i hi) n hr (Or.inl (by omega))
         have HMx : Hid (max (m0 : Int) (r : Int) = ((mxn F (f + 1) : Nat) : Int)) := by
           show _ = ((max (mxn F f) (F f) : Nat) : Int)
           rw [← HM.out,HP.out]; omega
         clear HM HP
         go_wp2
         go_roundw
         case rel => exact ⟨f + 1,by omega,by go_num,by rw [HMx.out],by first | trivial | rfl | exact HI.out.2⟩
         case measure => simp [intOf]; omega
   · have hib : ¬ (f : Int) < (n : Int) := by omega
     have hfn : f = n := by omega
     subst hfn
     rw [← hm0]
     have HM : Hid (m0 = mxn F f) := hm0
     clear hm0
     go_wp2
     go_ret
     have e := HM.out
     subst e
     exact ⟨rfl,HW.out⟩
theorem Tg.below {B : Nat} {L : List Nat} {w w' : World} (h : Tg B L w) (hb : Below w.heap.size w w') : Tg B L w' := by
 obtain ⟨D,⟨es,ck,h1,h2,h3,h4⟩,hD⟩ := h
 have hlt : B < w.heap.size := by
   rcases Nat.lt_or_ge B w.heap.size with c | c
   · exact c
   · rw [Array.getElem?_eq_none c] at h1; cases h1
 exact ⟨D,⟨es,ck,by rw [hb.block B hlt]; exact h1,h2,h3,h4⟩,hD⟩
theorem enters_bd1 : ∀ args w,(callFunc 51 args).run Tryz.prog w = .ok (.enter 51 args) w :=
 enters_of Tryz.func51 (by kernel_rfl) rfl
set_option maxHeartbeats 2000000 in
theorem bd1_any {C B x : Nat} {L : List Nat} {w : World} (hc : w.cell? ⟨C, 0, none⟩ = some (.map (some B))) (ht : Tg B L w) (hx : x ≤ 1000) :
   Calls Tryz.prog 51 #[.int .i64 (x : Nat), .pointer (some ⟨C,0,none⟩)] w fun e w' => e = .returned (.bool (L.contains x)) ∧ w' = w := by
 obtain ⟨D,hown,hD⟩ := ht
 have HOw : Hid (w.ownsMap Tryz.prog 3 (plainElem Tryz.prog 3) B L.length D ∧ TgD D L) := ⟨hown,hD⟩
 have hxw : (Lit.int .i64 (x : Nat)).wf = true := ct_wf hx
 clear hown hD hx
 by_cases hmem : x ∈ L
 · rw [List.contains_iff_mem.2 hmem]
   go_enter Tryz.func51,Tryz.ntmps51
   go_wp2_with (at_lookup; refine wpList_lookup_own_int _ rfl _ _ 55 rfl 3 3 .i64 ct_law ct_map cty_int (ct_zero _) B L.length _ rfl HOw.out.1 _ _ rfl (ct_key _ hxw) ?_; intro c hat hwc; obtain rfl : c = 1 := lit_inj (hat.symm.trans (HOw.out.2.yes x hmem)); clear hat hwc)
   go_ret
   exact ⟨rfl,rfl⟩
 · have hf : L.contains x = false := by
     cases h : L.contains x with
     | false => rfl
     | true => exact absurd (List.contains_iff_mem.1 h) hmem
   rw [hf]
   go_enter Tryz.func51,Tryz.ntmps51
   go_wp2_with (at_lookup; refine wpList_lookup_own_int _ rfl _ _ 55 rfl 3 3 .i64 ct_law ct_map cty_int (ct_zero _) B L.length _ rfl HOw.out.1 _ _ rfl (ct_key _ hxw) ?_; intro c hat hwc; obtain rfl : c = 0 := lit_inj (hat.symm.trans (HOw.out.2.no x hmem)); clear hat hwc)
   go_ret
   exact ⟨rfl,rfl⟩
def bnr (n : Nat) (L : List Nat) : Nat := mxn (fun s => if Nat.gcd (s + 1) n = 1 then iar n (s + 1) (fun x => L.contains x) else 0) n
set_option maxHeartbeats 2000000 in
set_option maxRecDepth 100000 in
theorem bound_err {q n e : Int} {zo : Option Addr} {m zc : Nat} {w : World} (h0 : e ≠ 0)
   (hC : Calls Tryz.prog 35 #[.int .i64 q, .int .i64 n, .slice zo m zc] w fun x w' => x = .returned (.int .i64 e) ∧ Below w.heap.size w w') :
   Calls Tryz.prog 13 #[.int .i64 q, .int .i64 n, .slice zo m zc] w fun x w' => x = .returned (.tuple #[.int .i64 0, .int .i64 e]) ∧ Below w.heap.size w w' := by
 have HC : Hid (Calls Tryz.prog 35 #[.int .i64 q, .int .i64 n, .slice zo m zc] w fun x w' => x = .returned (.int .i64 e) ∧ Below w.heap.size w w') := hC
 clear hC
 go_enter Tryz.func13,Tryz.ntmps13
 go_wp2_with fail
 refine HC.out.mono ?_
 rintro x w1 ⟨rfl,hb⟩
 have HB : Hid (Below w.heap.size w w1) := hb
 have hne : (e != 0) = true := by rw [bne_iff_ne]; exact h0
 clear hb
 go_wp2
 go_ret2
 exact ⟨rfl,HB.out⟩
set_option maxHeartbeats 8000000 in
set_option maxRecDepth 100000 in
theorem bound_ok {q n m zc : Nat} {zo : Option Addr} {z : Nat → Nat} {w : World} (hq : q ≤ 64) (hn1 : 1 ≤ n) (hn : n ≤ 64) (hm : m ≤ 1000) (hz : SlZ zo m (fun i => ((z i : Nat) : Int)) w) (hzl : LtB zo w.heap.size) (hzn : ∀ i, i < m → z i < n)
   (hC : Calls Tryz.prog 35 #[.int .i64 (q : Nat), .int .i64 (n : Nat), .slice zo m zc] w fun x w' => x = .returned (.int .i64 0) ∧ Below w.heap.size w w') :
   Calls Tryz.prog 13 #[.int .i64 (q : Nat), .int .i64 (n : Nat), .slice zo m zc] w fun x w' => ∃ L,x = .returned (.tuple #[.int .i64 (bnr n L + 1 : Nat), .int .i64 0]) ∧ TgL q n z m L ∧ Below w.heap.size w w' := by
 have HC : Hid (Calls Tryz.prog 35 #[.int .i64 (q : Nat), .int .i64 (n : Nat), .slice zo m zc] w fun x w' => x = .returned (.int .i64 0) ∧ Below w.heap.size w w') := hC
 have HZ : Hid (SlZ zo m (fun i => ((z i : Nat) : Int)) w ∧ LtB zo w.heap.size ∧ ∀ i,i < m → z i < n) := ⟨hz,hzl,hzn⟩
 clear hC hz hzl hzn
 go_enter Tryz.func13,Tryz.ntmps13
 go_wp2_with fail
 refine HC.out.mono ?_
 rintro x w1 ⟨rfl,hb1⟩
 have H1 : Hid (Below w.heap.size w w1) := hb1
 clear hb1 HC
 go_wp2_with fail
 refine (cytog_any hq hn1 hn hm (fun i hi => by
   obtain ⟨b,off,e,k⟩ := HZ.out.1 i hi
   exact ⟨b,off,e,(H1.out.cell (p := ⟨b,off + i,none⟩) (show b < w.heap.size from HZ.out.2.1 _ e)).trans k⟩) (fun x hx => Nat.lt_of_lt_of_le (HZ.out.2.1 x hx) H1.out.size) HZ.out.2.2).mono ?_
 rintro e w2 ⟨L,rfl,htg,htl,hb2⟩
 obtain ⟨B,hB⟩ : ∃ B,B = w1.heap.size := ⟨_,rfl⟩
 rw [← hB] at htg
 rw [← hB]
 have hlc : ∀ v,w2.cell? ⟨w2.heap.size,0,none⟩ = v → v = v := fun _ _ => rfl
 obtain ⟨w3,hw3⟩ : ∃ w3,w3 = w2.alloc (.cells #[.map (some B)] 55) := ⟨_,rfl⟩
 have hb3 : Below w2.heap.size w2 w3 := by rw [hw3]; exact (Below.refl _ _).alloc (Nat.le_refl _) _
 have hc3 : w3.cell? ⟨w2.heap.size,0,none⟩ = some (.map (some B)) := by rw [hw3,cell_of_row _ _ _ _ _ (0,0) (two_new _)]; rfl
 have hs3 : w3.heap.size = w2.heap.size + 1 := by rw [hw3]; simp
 have H3 : Hid (Tg B L w3 ∧ TgL q n z m L ∧ Below w.heap.size w w3 ∧ w3.cell? ⟨w2.heap.size,0,none⟩ = some (.map (some B)) ∧ w3.heap.size = w2.heap.size + 1) := ⟨htg.below hb3,htl,bel_up' (bel_up' H1.out hb2) hb3,hc3,hs3⟩
 clear htg htl hb2 hB hb3 hc3 hs3 hlc H1 HZ
 obtain ⟨C,hCe⟩ : ∃ C,C = w2.heap.size := ⟨_,rfl⟩
 rw [← hCe] at H3
 obtain ⟨F,hF⟩ : ∃ F : Nat → Nat,F = fun s => if Nat.gcd (s + 1) n = 1 then iar n (s + 1) (fun x => L.contains x) else 0 := ⟨_,rfl⟩
 have HF : Hid ((F = fun s => if Nat.gcd (s + 1) n = 1 then iar n (s + 1) (fun x => L.contains x) else 0) ∧ bnr n L = mxn F n) := ⟨hF,by rw [hF]; rfl⟩
 have HFn : Hid (∀ f,F f ≤ n) := fun f => by
   rw [hF]
   show (if _ then _ else _) ≤ n
   split
   · exact iar_le _ _ _
   · omega
 clear hF
 go_wp2
 rw [← hw3, ← hCe]
 clear hw3 hCe
 go_loopw [10,11] (fun vm vs wr => ∃ s : Nat,s ≤ n ∧ vs = .int .i64 ((s : Int) + 1) ∧ vm = .int .i64 (mxn F s : Nat) ∧ Hid (Below w3.heap.size w3 wr)) (fun _ vs _ => n + 1 - (intOf vs).toNat)
 case atStart => exact ⟨0,by omega,rfl,rfl,Below.refl _ _⟩
 case round =>
   obtain ⟨s,hs,rfl,rfl,HW⟩ := hrel
   rename World => wr
   obtain ⟨m0,hm0⟩ : ∃ m0,m0 = mxn F s := ⟨_,rfl⟩
   have hm0n : m0 ≤ 64 := by rw [hm0]; have := mxn_le (f := F) (B := n) s (fun i _ => HFn.out i); omega
   rw [← hm0]
   have HM : Hid (m0 = mxn F s) := hm0
   clear hm0
   obtain ⟨s1,hs1⟩ : ∃ s1,s1 = s + 1 := ⟨_,rfl⟩
   have hs1i : (s : Int) + 1 = (s1 : Int) := by omega
   rw [hs1i]
   have HS : Hid (s1 = s + 1) := hs1
   by_cases hlt : s < n
   · have hib : (s1 : Int) ≤ (n : Int) := by omega
     have hb1 : s1 ≤ 64 := by omega
     clear hs1i hs1
     go_wp2_with fail
     refine (cdiv_any (a := s1) (b := n) (by omega) (by omega) wr).mono ?_
     rintro e w4 ⟨rfl,hb4⟩
     have H4 : Hid (Below w3.heap.size w3 w4) := bel_up' HW.out hb4
     clear hb4 HW
     obtain ⟨gd,hgd⟩ : ∃ gd,gd = Nat.gcd s1 n := ⟨_,rfl⟩
     rw [← hgd]
     by_cases h1 : gd = 1
     · have h1b : ((gd : Int) == 1) = true := by rw [beq_iff_eq]; omega
       obtain ⟨x,hx⟩ : ∃ x,x = iar n s1 (fun x => L.contains x) := ⟨_,rfl⟩
       have HI : Hid (Calls Tryz.prog 50 #[.int .i64 (n : Nat), .int .i64 (s1 : Nat), .func (.func 51) #[] #[.pointer (some ⟨C,0,none⟩)]] w4 fun e w' => e = .returned (.int .i64 (x : Nat)) ∧ w' = w4) := by
         rw [hx]
         refine iar_any enters_bd1 hn1 hn hb1 (fun y hy => ?_)
         have e : (#[Value.int .i64 (y : Nat)] ++ #[Value.pointer (some ⟨C,0,none⟩)] : Array Value) = #[.int .i64 (y : Nat), .pointer (some ⟨C,0,none⟩)] := rfl
         rw [e]
         exact bd1_any ((H4.out.cell (p := ⟨C,0,none⟩) (cell_lt H3.out.2.2.2.1)).trans H3.out.2.2.2.1) (H3.out.1.below H4.out) (by omega)
       have hxn : x ≤ 64 := by rw [hx]; have := iar_le n s1 (fun x => L.contains x); omega
       have HMx : Hid (max (m0 : Int) (x : Int) = ((mxn F (s + 1) : Nat) : Int)) := by
         show _ = ((max (mxn F s) (F s) : Nat) : Int)
         have e : F s = x := by
           rw [HF.out.1,hx,HS.out]
           show (if _ then _ else _) = _
           rw [if_pos (by rw [← HS.out, ← hgd]; exact h1)]
         rw [← HM.out,e]; omega
       clear hx hgd
       go_wp2_with fail
       refine HI.out.mono ?_
       rintro e w5 ⟨rfl,hw5⟩
       have hw5 := hw5.symm
       subst hw5
       go_wp2
       go_roundw
       case rel => exact ⟨s + 1,by omega,by (have := HS.out; subst this; first | rfl | go_num),by rw [HMx.out],H4.out⟩
       case measure => have := HS.out; subst this; simp [intOf]; omega
     · have h1b : ((gd : Int) == 1) = false := by rw [beq_eq_false_iff_ne]; omega
       have HMx : Hid (m0 = mxn F (s + 1)) := by
         show _ = max (mxn F s) (F s)
         have e : F s = 0 := by
           rw [HF.out.1]
           show (if _ then _ else _) = _
           rw [if_neg (by rw [← HS.out, ← hgd]; exact h1)]
         rw [← HM.out,e]; omega
       clear hgd
       go_wp2
       go_roundw
       case rel => exact ⟨s + 1,by omega,by (have := HS.out; subst this; first | rfl | go_num),by rw [← HMx.out],H4.out⟩
       case measure => have := HS.out; subst this; simp [intOf]; omega
   · have hib : ¬ (s1 : Int) ≤ (n : Int) := by omega
     have hfn : s = n := by omega
     have HE : Hid (bnr n L = m0) := by
       show _ = _
       rw [HF.out.2,HM.out,hfn]
     clear hs1i hs1
     go_wp2
     go_ret2
     exact ⟨L,by rw [HE.out]; rfl,H3.out.2.1,bel_up' H3.out.2.2.1 HW.out⟩
end Go.Proofs.YtppggchhkckobaaGreat
namespace Go.Proofs.YtppggchhkckobaaGreat
end Go.Proofs.YtppggchhkckobaaGreat
namespace Go.Proofs.YtppggchhkckobaaGreat
end Go.Proofs.YtppggchhkckobaaGreat
namespace Go.Proofs.YtppggchhkckobaaGreat
open Go.RowKit Go.Sort
theorem Szo.zeros {E : FD} {n : Nat} (h : Szo E n) {m zc : Nat} {zo : Option Addr} {z : Nat → Nat} {w : World} (hm : m ≤ 64) (hz : SlZ zo m (fun i => ((z i : Nat) : Int)) w) (hzl : LtB zo w.heap.size) (hzn : ∀ i, i < m → z i < n) :
   Calls Tryz.prog 35 #[.int .i64 E.q, .int .i64 (n : Nat), .slice zo m zc] w fun x w' => x = .returned (.int .i64 0) ∧ Below w.heap.size w w' := by
 have hc := czeros_any (zc := zc) (e := Go.Proofs.YtppggchhkckobaaGreat.cyc E (n : Int)) (q := E.q) (n := (n : Nat)) hz hzl (by omega) (fun w1 => cychk_any h.fld (n : Int) w1)
 have e : czs (Go.Proofs.YtppggchhkckobaaGreat.cyc E (n : Int)) (n : Int) m (fun i => ((z i : Nat) : Int)) = 0 := by
   unfold czs
   rw [h.cyc,if_neg (by omega),if_neg (by omega),if_neg]
   rw [anyB_no m (fun j hj => ?_)]
   · intro c; cases c
   · have := hzn j hj
     show (decide (((z j : Nat) : Int) < 0) || decide ((n : Int) ≤ ((z j : Nat) : Int))) = false
     rw [decide_eq_false (by omega),decide_eq_false (by omega)]; rfl
 rw [e] at hc
 exact hc
theorem slz_bel {zo : Option Addr} {m : Nat} {z : Nat → Int} {w w' : World} (h : SlZ zo m z w) (hl : LtB zo w.heap.size) (hb : Below w.heap.size w w') : SlZ zo m z w' ∧ LtB zo w'.heap.size := ⟨fun i hi => by
 obtain ⟨b,off,e,k⟩ := h i hi
 exact ⟨b,off,e,(hb.cell (p := ⟨b,off + i,none⟩) (show b < w.heap.size from hl _ e)).trans k⟩,fun x hx => Nat.lt_of_lt_of_le (hl x hx) hb.size⟩
def bzrow (n f : Nat) (i : Nat) : Nat := (f + i) % n
set_option maxHeartbeats 2000000 in
theorem rn_any {a b : Nat} (w : World) :
   Calls Tryz.prog 93 #[.int .i64 (a : Nat), .int .i64 (b : Nat)] w fun e w' => e = .returned (.int .i64 (min a b : Nat)) ∧ w' = w := by
 by_cases h : a < b
 · have h1 : (a : Int) < (b : Int) := by omega
   rw [show min a b = a by omega]
   go_enter Tryz.func93,Tryz.ntmps93
   go_wp2
   go_ret
   exact ⟨rfl,rfl⟩
 · have h1 : ¬ (a : Int) < (b : Int) := by omega
   rw [show min a b = b by omega]
   go_enter Tryz.func93,Tryz.ntmps93
   go_wp2
   go_ret
   exact ⟨rfl,rfl⟩
theorem gcd_down {a b d : Nat} (ha : 1 ≤ a) (hb : 1 ≤ b) (h1 : a % d = 0) (h2 : b % d = 0) (hd : ∀ e,d < e → e ≤ min a b → ¬ (a % e = 0 ∧ b % e = 0)) : Nat.gcd a b = d := by
 have hg : d ∣ Nat.gcd a b := Nat.dvd_gcd (Nat.dvd_of_mod_eq_zero h1) (Nat.dvd_of_mod_eq_zero h2)
 have hp : 0 < Nat.gcd a b := Nat.gcd_pos_of_pos_left _ ha
 have hle := Nat.le_of_dvd hp hg
 have l1 := Nat.le_of_dvd ha (Nat.gcd_dvd_left a b)
 have l2 := Nat.le_of_dvd hb (Nat.gcd_dvd_right a b)
 rcases Nat.lt_or_ge d (Nat.gcd a b) with c | c
 · exact absurd ⟨Nat.mod_eq_zero_of_dvd (Nat.gcd_dvd_left a b),Nat.mod_eq_zero_of_dvd (Nat.gcd_dvd_right a b)⟩ (hd _ c (by omega))
 · omega
set_option maxHeartbeats 4000000 in
set_option maxRecDepth 100000 in
theorem common_any {a b : Nat} (ha1 : 1 ≤ a) (hb1 : 1 ≤ b) (ha : a ≤ 1000) (hb : b ≤ 1000) (w : World) :
   Calls Tryz.prog 52 #[.int .i64 (a : Nat), .int .i64 (b : Nat)] w fun e w' => e = .returned (.int .i64 (Nat.gcd a b : Nat)) ∧ w' = w := by
 obtain ⟨G,hG⟩ : ∃ G,G = Nat.gcd a b := ⟨_,rfl⟩
 rw [← hG]
 have HGe : Hid (G = Nat.gcd a b) := hG
 clear hG
 obtain ⟨M,hM⟩ : ∃ M,M = min a b := ⟨_,rfl⟩
 have HR : Hid (Calls Tryz.prog 93 #[.int .i64 (a : Nat), .int .i64 (b : Nat)] w fun e w' => e = .returned (.int .i64 (M : Nat)) ∧ w' = w) := by rw [hM]; exact rn_any w
 have hMb : 1 ≤ M ∧ M ≤ 1000 := by omega
 have HMe : Hid (M = min a b) := hM
 clear hM
 go_enter Tryz.func52,Tryz.ntmps52
 go_wp2_with fail
 refine HR.out.mono ?_
 rintro e w1 ⟨rfl,hw1⟩
 have hw1 := hw1.symm
 subst hw1
 go_wp2
 go_loopw [5] (fun vd wr => ∃ d : Nat,1 ≤ d ∧ d ≤ M ∧ vd = .int .i64 (d : Nat) ∧ Hid ((∀ e,d < e → e ≤ M → ¬ (a % e = 0 ∧ b % e = 0)) ∧ wr = w)) (fun vd _ => (intOf vd).toNat)
 case atStart => exact ⟨M,by omega,by omega,rfl,fun e h1 h2 => absurd h1 (by omega),rfl⟩
 case round =>
   obtain ⟨d,hd1,hdM,rfl,HI⟩ := hrel
   rename World => wr
   by_cases hlt : 1 < d
   · have hib : (d : Int) > 1 := by omega
     have hib2 : (1 : Int) < (d : Int) := by omega
     have hn0 : ¬ (d : Int) = 0 := by omega
     have hn0b : ((d : Int) == 0) = false := by rw [beq_eq_false_iff_ne]; omega
     obtain ⟨x,hx⟩ : ∃ x,x = a % d := ⟨_,rfl⟩
     obtain ⟨y,hy⟩ : ∃ y,y = b % d := ⟨_,rfl⟩
     have hxl : x < d := by rw [hx]; exact Nat.mod_lt _ (by omega)
     have hyl : y < d := by rw [hy]; exact Nat.mod_lt _ (by omega)
     have hrm : (a : Int).tmod (d : Int) = (x : Int) := by rw [Int.tmod_eq_emod_of_nonneg (by omega),hx]; omega
     have hre : (a : Int) % (d : Int) = (x : Int) := by rw [hx]; omega
     have hrm2 : (b : Int).tmod (d : Int) = (y : Int) := by rw [Int.tmod_eq_emod_of_nonneg (by omega),hy]; omega
     have hre2 : (b : Int) % (d : Int) = (y : Int) := by rw [hy]; omega
     have HX : Hid (x = a % d ∧ y = b % d) := ⟨hx,hy⟩
     clear hx hy
     by_cases hxy : x = 0 ∧ y = 0
     · have hx0 : ((x : Int) == 0) = true := by rw [beq_iff_eq]; omega
       have hy0 : ((y : Int) == 0) = true := by rw [beq_iff_eq]; omega
       have HE : Hid (G = d) := by
         show _ = _
         rw [HGe.out]
         exact gcd_down ha1 hb1 (by rw [← HX.out.1]; exact hxy.1) (by rw [← HX.out.2]; exact hxy.2) (by rw [← HMe.out]; exact HI.out.1)
       clear hxy
       go_wp2
       go_ret
       have e := HE.out
       subst e
       exact ⟨rfl,HI.out.2⟩
     · have HN : Hid ((∀ e, d - 1 < e → e ≤ M → ¬ (a % e = 0 ∧ b % e = 0)) ∧ wr = w) := by
         refine ⟨fun e h1 h2 => ?_,HI.out.2⟩
         by_cases c : e = d
         · rw [c, ← HX.out.1, ← HX.out.2]; exact hxy
         · exact HI.out.1 e (by omega) h2
       have hdi : (d : Int) - 1 = ((d - 1 : Nat) : Int) := by omega
       obtain ⟨d1,hd1e⟩ : ∃ d1,d1 = d - 1 := ⟨_,rfl⟩
       rw [← hd1e] at HN hdi
       have hdb : 1 ≤ d1 ∧ d1 ≤ M ∧ d1 < d := by omega
       clear hd1e
       by_cases hx : x = 0
       · have hx0 : ((x : Int) == 0) = true := by rw [beq_iff_eq]; omega
         have hy0 : ((y : Int) == 0) = false := by rw [beq_eq_false_iff_ne]; omega
         clear hxy hx
         go_wp2
         go_roundw
         case rel => exact ⟨d1,by omega,by omega,rfl,HN.out⟩
         case measure => simp [intOf]; omega
       · have hx0 : ((x : Int) == 0) = false := by rw [beq_eq_false_iff_ne]; omega
         clear hxy hx
         go_wp2
         go_roundw
         case rel => exact ⟨d1,by omega,by omega,rfl,HN.out⟩
         case measure => simp [intOf]; omega
   · have hib : ¬ (d : Int) > 1 := by omega
     have hib2 : ¬ (1 : Int) < (d : Int) := by omega
     have hde : d = 1 := by omega
     subst hde
     have HE : Hid (G = 1) := by
       show _ = _
       rw [HGe.out]
       exact gcd_down ha1 hb1 (Nat.mod_one _) (Nat.mod_one _) (by rw [← HMe.out]; exact HI.out.1)
     go_wp2
     go_ret
     have e := HE.out
     subst e
     exact ⟨rfl,HI.out.2⟩
end Go.Proofs.YtppggchhkckobaaGreat
