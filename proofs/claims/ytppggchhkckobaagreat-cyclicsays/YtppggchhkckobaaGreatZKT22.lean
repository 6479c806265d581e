/- Texts of ours, one behind the other: KT22 KT23 KT24 S75. -/
import Derived.Test.YtppggchhkckobaaGreatZKT18
import Derived.Test.YtppggchhkckobaaGreatZKT3
import Derived.Test.YtppggchhkckobaaGreatZR5
import Derived.Test.YtppggchhkckobaaGreatZS68
import Derived.Test.YtppggchhkckobaaGreatZI1
namespace Go.Proofs.YtppggchhkckobaaGreat
open Go.RowKit Go.Sort
theorem own_slice {base : Nat} {v : Value} {l : List Int} {w : World} (h : OwnI base v l w) : ∃ so sk sc,v = .slice so sk sc := by
 rcases h.2 with ⟨h1,_⟩ | ⟨g,cap,cur,hv,_⟩
 · exact ⟨_,_,_,h1⟩
 · exact ⟨_,_,_,hv⟩
theorem own_apartT {base base' : Nat} {u v : Value} {c : List Int} {l : List Value} {w : World} (h : OwnI base u c w) (ho : OwnV base' v l w) : u.ownBlock = none ∨ u.ownBlock ≠ v.ownBlock := by
 rcases h.2 with ⟨h1,_⟩ | ⟨g,cap,cur,hu,_,hh,_⟩
 · rw [h1]; exact Or.inl rfl
 · right
   rcases ho.2 with ⟨h2,_⟩ | ⟨g',cap',cur',hv,_,hh',_⟩
   · rw [hu,h2]; intro e; cases e
   · rw [hu,hv]
     intro e
     have e : some g = some g' := e
     cases e
     rw [hh] at hh'
     simp at hh'
set_option maxHeartbeats 16000000 in
set_option maxRecDepth 100000 in
theorem rcos_ok {E : FD} (hE : E ∈ fieldsL) {n : Nat} (hn1 : 1 ≤ n) (hn : n ≤ 64) (hp : n % E.p ≠ 0) (w : World) :
   Calls Tryz.prog 8 #[.int .i64 E.q, .int .i64 (n : Nat)] w fun x w' => ∃ v,x = .returned (.tuple #[v, .int .i64 0]) ∧ NLs w.heap.size v (cosL E.q n n) w' ∧ Below w.heap.size w w' := by
 have HE : Hid (E ∈ fieldsL) := hE
 have hq64 := (fld hE).q64
 have hp2 := (fld hE).p2
 have hp64 := (fld hE).p64
 have g1 : ¬ (n : Int) < 1 := by omega
 have g2 : ¬ (n : Int) > 64 := by omega
 have g3 : ¬ (64 : Int) < (n : Int) := by omega
 obtain ⟨p,hpe⟩ : ∃ p,p = E.p := ⟨_,rfl⟩
 obtain ⟨x,hx⟩ : ∃ x,x = n % E.p := ⟨_,rfl⟩
 have hp0 : ¬ (p : Int) = 0 := by omega
 have hp0b : ((p : Int) == 0) = false := by rw [beq_eq_false_iff_ne]; omega
 have hrm : (n : Int).tmod (p : Int) = (x : Int) := by rw [Int.tmod_eq_emod_of_nonneg (by omega),hx,hpe]; omega
 have hre : (n : Int) % (p : Int) = (x : Int) := by rw [hx,hpe]; omega
 have hx0 : ((x : Int) == 0) = false := by rw [beq_eq_false_iff_ne]; omega
 clear hE hp hx hp2 hp64
 go_enter Tryz.func8,Tryz.ntmps8
 go_wp2_with fail
 refine (rfield_sl HE.out w).mono ?_
 rintro e w1 ⟨gm,cm,rfl,_,hb1⟩
 unfold rf
 obtain ⟨w2,hw2⟩ : ∃ w2,w2 = w1.alloc (.cells #[.int .i64 E.q, .int .i64 (p : Nat), .int .i64 E.m, .int .i64 E.gen, .slice (some ⟨gm,0,none⟩) (E.m + 1) cm] 59) := ⟨_,rfl⟩
 rw [← hpe]
 have H2 : Hid (Below w.heap.size w w2) := by
   have h : Below w1.heap.size w1 w2 := by rw [hw2]; exact (Below.refl _ _).alloc (Nat.le_refl _) _
   exact bel_up' hb1 h
 obtain ⟨q,hqe⟩ : ∃ q,q = E.q := ⟨_,rfl⟩
 rw [← hqe] at hw2 hq64
 rw [← hqe]
 have HQ : Hid (q = E.q) := hqe
 clear hb1 hqe hpe HE
 go_wp2_with (first | (at_make; (try rw [← hw2]); refine make_bool rfl _ _ rfl _ n rfl rfl rfl (by omega) ?_; intro w3 hrow3 hgrow3))
 obtain ⟨gi,hgi⟩ : ∃ gi,gi = w1.heap.size + 1 := ⟨_,rfl⟩
 have hgs : gi = w2.heap.size := by rw [hgi,hw2]; simp
 have H3 : Hid (RowF gi n 4 (fun x => .bool (inB q n 0 x)) w3 ∧ NLs (gi + 1) (.slice none 0 0) (cosL q n 0) w3 ∧ Below gi w2 w3 ∧ gi = w2.heap.size) := by
   rw [hgs]
   exact ⟨hrow3,NLs.nil _ _,below_grown hgrow3 (Nat.le_refl _) (fun k hk => by simp at hk),rfl⟩
 rw [← hgi]
 clear hrow3 hgrow3 hgi hgs hw2
 go_loopw [9,10] (fun vl vk wr => ∃ k : Nat,k ≤ n ∧ vk = .int .i64 (k : Nat) ∧ Hid (RowF gi n 4 (fun x => .bool (inB q n k x)) wr ∧ NLs (gi + 1) vl (cosL q n k) wr ∧ Below gi w2 wr)) (fun _ vk _ => n - (intOf vk).toNat)
 case atStart => exact ⟨0,by omega,rfl,H3.out.1,H3.out.2.1,H3.out.2.2.1⟩
 case round =>
   obtain ⟨k,hk,rfl,HI⟩ := hrel
   rename World => wr
   by_cases hlt : k < n
   · have hib : (k : Int) < (n : Int) := by omega
     have hib0 : (0 : Int) ≤ (k : Int) := by omega
     cases hin : inB q n k k with
     | true =>
       have c0 : wr.cell? ⟨gi,k,none⟩ = some (.bool true) := by rw [HI.out.1.cell k hlt,hin]
       have HN : Hid (RowF gi n 4 (fun x => .bool (inB q n (k + 1) x)) wr ∧ NLs (gi + 1) u9 (cosL q n (k + 1)) wr ∧ Below gi w2 wr) := by
         refine ⟨HI.out.1.congr (fun o _ => by rw [inB_same (by omega) hin]), ?_,HI.out.2.2⟩
         rw [cosL_skip hin]; exact HI.out.2.1
       clear hin
       go_wp2
       go_roundw
       case rel => exact ⟨k + 1,by omega,by go_num,HN.out⟩
       case measure => simp [intOf]; omega
     | false =>
       have c0 : wr.cell? ⟨gi,k,none⟩ = some (.bool false) := by rw [HI.out.1.cell k hlt,hin]
       have HF : Hid (inB q n k k = false) := hin
       clear hin
       have hsz : gi < wr.heap.size := HI.out.1.lt
       go_wp2_with (first | (at_make; refine make_bool rfl _ _ rfl _ n rfl rfl rfl (by omega) ?_; intro w4 hrow4 hgrow4))
       obtain ⟨gw,hgw⟩ : ∃ gw,gw = wr.heap.size := ⟨_,rfl⟩
       have hgl : gi < gw := by omega
       have H4 : Hid (RowF gi n 4 (fun x => .bool (inB q n k x || wsB q n k 0 x)) w4 ∧ RowF gw n 4 (fun x => .bool (wsB q n k 0 x)) w4 ∧ (∀ g,gi + 1 ≤ g → g < wr.heap.size → w4.heap[g]? = wr.heap[g]?) ∧ Below gi w2 w4) := by
         have hb4 : Below wr.heap.size wr w4 := below_grown hgrow4 (Nat.le_refl _) (fun k hk => by simp at hk)
         refine ⟨(HI.out.1.below hb4 hsz).congr (fun o _ => by show _ = Value.bool (inB q n k o || false); rw [Bool.or_false]),by rw [hgw]; exact hrow4,fun g _ hg => hb4.block g hg,HI.out.2.2.trans (hb4.mono (by omega))⟩
       rw [← hgw]
       have HGW : Hid (gw = wr.heap.size) := hgw
       clear hrow4 hgrow4 hgw c0
       go_loopg [12] (n + 1) (fun gk vi wx => ∃ s : Nat,vi = .int .i64 (orb q n k s : Nat) ∧ gk = n + 1 - s ∧ Hid ((RowF gi n 4 (fun x => .bool (inB q n k x || wsB q n k s x)) wx ∧ RowF gw n 4 (fun x => .bool (wsB q n k s x)) wx ∧ (∀ g,gi + 1 ≤ g → g < wr.heap.size → wx.heap[g]? = wr.heap[g]?) ∧ Below gi w2 wx) ∧ ((List.range s).map (orb q n k)).Nodup))
       case atStart => exact ⟨0,by rw [orb_zero hlt],by omega,H4.out,List.nodup_nil⟩
       case round =>
         obtain ⟨s,rfl,rfl,HJ⟩ := hrel
         rename World => wx
         obtain ⟨y,hy⟩ : ∃ y,y = orb q n k s := ⟨_,rfl⟩
         have hyn : y < n := by rw [hy]; exact orb_lt (by omega)
         have hyb : (y : Int) < (n : Int) := by omega
         have hyb0 : (0 : Int) ≤ (y : Int) := by omega
         have hsn := ws_le (by omega) HJ.out.2
         rw [← hy]
         have HY : Hid (y = orb q n k s) := hy
         clear hy
         cases hws : wsB q n k s y with
         | false =>
           have c0 : wx.cell? ⟨gw,y,none⟩ = some (.bool false) := by rw [HJ.out.1.2.1.cell y hyn,hws]
           have f0 := HJ.out.1.2.1.free y
           have r1 := HJ.out.1.2.1.store y (.bool true)
           have r2 := HJ.out.1.1.setOther ⟨gw,y,none⟩ (show gi ≠ gw by omega) (.bool true)
           have c1 := r2.cell y hyn
           have f1 := r2.free y
           obtain ⟨u,hu⟩ : ∃ u,u = y * q := ⟨_,rfl⟩
           have hui : (y : Int) * (q : Int) = (u : Int) := by rw [hu]; simp
           have hub : u ≤ 4096 := by rw [hu]; exact Nat.le_trans (Nat.mul_le_mul (show y ≤ 64 by omega) hq64) (by decide)
           have huw : IntKind.i64.wrap (u : Int) = (u : Int) := wrap_to rfl (by omega)
           obtain ⟨z,hz⟩ : ∃ z,z = u % n := ⟨_,rfl⟩
           have hrm2 : (u : Int).tmod (n : Int) = (z : Int) := by rw [Int.tmod_eq_emod_of_nonneg (by omega),hz]; omega
           have hre2 : (u : Int) % (n : Int) = (z : Int) := by rw [hz]; omega
           have hn0 : ¬ (n : Int) = 0 := by omega
           have hn0b : ((n : Int) == 0) = false := by rw [beq_eq_false_iff_ne]; omega
           have HZ : Hid (z = orb q n k (s + 1)) := by show _ = _; rw [orb_succ, ← HY.out,hz,hu]
           clear hu hz
           obtain ⟨wy,hwy⟩ : ∃ wy,wy = (wx.setCell ⟨gw,y,none⟩ (.bool true)).setCell ⟨gi,y,none⟩ (.bool true) := ⟨_,rfl⟩
           have HN : Hid ((RowF gi n 4 (fun x => .bool (inB q n k x || wsB q n k (s + 1) x)) wy ∧ RowF gw n 4 (fun x => .bool (wsB q n k (s + 1) x)) wy ∧ (∀ g,gi + 1 ≤ g → g < wr.heap.size → wy.heap[g]? = wr.heap[g]?) ∧ Below gi w2 wy) ∧ ((List.range (s + 1)).map (orb q n k)).Nodup) := by
             have hsu : ∀ o,wsB q n k (s + 1) o = if o = y then true else wsB q n k s o := fun o => by
               rw [wsB_succ, ← HY.out]
               by_cases e : o = y
               · rw [if_pos e,e]; simp
               · rw [if_neg e,show (y == o) = false by rw [beq_eq_false_iff_ne]; exact fun h => e h.symm,Bool.or_false]
             rw [hwy]
             refine ⟨⟨(r2.store y (.bool true)).congr (fun o _ => ?_),(r1.setOther ⟨gi,y,none⟩ (show gw ≠ gi by omega) (.bool true)).congr (fun o _ => ?_),fun g hg1 hg2 => ?_,(HJ.out.1.2.2.2.setCell (show gi ≤ gw by omega) _).setCell (Nat.le_refl _) _⟩,ws_nodup HJ.out.2 (by rw [← HY.out]; exact hws)⟩
             · rw [hsu o]
               unfold upd
               by_cases e : o = y
               · rw [if_pos e,if_pos e,Bool.or_true]
               · rw [if_neg e,if_neg e]
             · rw [hsu o]
               unfold upd
               by_cases e : o = y
               · rw [if_pos e,if_pos e]
               · rw [if_neg e,if_neg e]
             · rw [Below.heap_setCell _ _ _ _ (show g ≠ gi by omega),Below.heap_setCell _ _ _ _ (show g ≠ gw by have := HGW.out; omega)]
               exact HJ.out.1.2.2.1 g hg1 hg2
           clear r1 r2 hws
           go_wp2
           rw [← hwy]
           clear hwy c0 c1 f0 f1
           go_roundg (n + 1 - (s + 1))
           case rel => exact ⟨s + 1,by rw [HZ.out],rfl,HN.out⟩
           case measure => omega
         | true =>
           have c0 : wx.cell? ⟨gw,y,none⟩ = some (.bool true) := by rw [HJ.out.1.2.1.cell y hyn,hws]
           have HW : Hid (∀ x,wsB q n k s x = orbB q n k x) := fun x => wsB_end (by omega) (by rw [← HY.out]; exact hws) x
           clear hws
           have HK : Hid (RowF gi n 4 (fun x => .bool (inB q n (k + 1) x)) wx ∧ RowF gw n 4 (fun x => .bool (orbB q n k x)) wx ∧ NLs (gi + 1) u9 (cosL q n k) wx ∧ Below gi w2 wx) := by
             refine ⟨HJ.out.1.1.congr (fun o _ => by rw [inB_succ,HW.out]),HJ.out.1.2.1.congr (fun o _ => by rw [HW.out]),HI.out.2.1.low (fun g h1 h2 => HJ.out.1.2.2.1 g h1 h2),HJ.out.1.2.2.2⟩
           have hgx : gw < wx.heap.size := HJ.out.1.2.1.lt
           clear HW HJ
           go_wp2
           clear c0
           go_loopw [13,14] (fun vl vt wz => ∃ t : Nat,t ≤ n ∧ vt = .int .i64 (t : Nat) ∧ Hid (OwnI wx.heap.size vl (nzl ((List.range t).filter (orbB q n k))) wz ∧ Below wx.heap.size wx wz)) (fun _ vt _ => n - (intOf vt).toNat)
           case atStart => exact ⟨0,by omega,rfl,OwnI.nil _ _,Below.refl _ _⟩
           case round =>
             obtain ⟨t,ht,rfl,HL⟩ := hrel
             rename World => wz
             have hszz := HL.out.2.size
             have hfl : ((List.range t).filter (orbB q n k)).length ≤ t := by
               have := List.length_filter_le (orbB q n k) (List.range t)
               simpa using this
             by_cases htn : t < n
             · have htb : (t : Int) < (n : Int) := by omega
               have htb0 : (0 : Int) ≤ (t : Int) := by omega
               cases hob : orbB q n k t with
               | true =>
                 have c0 : wz.cell? ⟨gw,t,none⟩ = some (.bool true) := by rw [(HK.out.2.1.below HL.out.2 hgx).cell t htn,hob]
                 have HO : Hid (nzl ((List.range (t + 1)).filter (orbB q n k)) = nzl ((List.range t).filter (orbB q n k)) ++ [(t : Int)]) := by
                   show _ = _
                   rw [List.range_succ,List.filter_append]
                   unfold nzl
                   simp [hob]
                 clear hob
                 go_wp2_with (first
                   | (at_builtin; refine append_int rfl _ _ rfl wx.heap.size _ (nzl ((List.range t).filter (orbB q n k))) rfl (HL.out.1.alloc _) ⟨_,0,none⟩ 1 (t : Nat) rfl (by simp) (by unfold nzl; rw [List.length_map]; omega) (by simp; omega) ?_; intro v2 w5 hown5 hgrow5))
                 have HN : Hid (OwnI wx.heap.size v2 (nzl ((List.range (t + 1)).filter (orbB q n k))) w5 ∧ Below wx.heap.size wx w5) := by
                   refine ⟨?_,(HL.out.2.alloc hszz _).grown hgrow5 (by simp; omega) (fun k hk => (HL.out.1.lt k hk).1)⟩
                   rw [HO.out]; exact hown5
                 clear hown5 hgrow5 c0
                 go_roundw
                 case rel => exact ⟨t + 1,by omega,by go_num,HN.out⟩
                 case measure => simp [intOf]; omega
               | false =>
                 have c0 : wz.cell? ⟨gw,t,none⟩ = some (.bool false) := by rw [(HK.out.2.1.below HL.out.2 hgx).cell t htn,hob]
                 have HN : Hid (OwnI wx.heap.size u13 (nzl ((List.range (t + 1)).filter (orbB q n k))) wz ∧ Below wx.heap.size wx wz) := by
                   refine ⟨?_,HL.out.2⟩
                   rw [List.range_succ,List.filter_append]
                   simp [hob]
                   exact HL.out.1
                 clear hob
                 go_wp2
                 go_roundw
                 case rel => exact ⟨t + 1,by omega,by go_num,HN.out⟩
                 case measure => simp [intOf]; omega
             · have htb : ¬ (t : Int) < (n : Int) := by omega
               have hte : t = n := by omega
               subst hte
               obtain ⟨so,sk,sc,hso⟩ := own_slice HL.out.1
               subst hso
               have HV : Hid (OwnI (gi + 1) (.slice so sk sc) (nzl (cosR q t k)) wz ∧ NLs (gi + 1) u9 (cosL q t k) wz) := ⟨HL.out.1.mono (by omega),HK.out.2.2.1.below HL.out.2⟩
               obtain ⟨lst,a1,a2,a3⟩ := HV.out.2
               have hll : lst.length ≤ 1000000 := by
                 have := List.length_filter_le (fun j => !inB q t j j) (List.range k)
                 unfold cosL at a2
                 rw [List.length_map] at a2
                 simp at this
                 omega
               have HA : Hid (OwnV (gi + 1) u9 lst wz ∧ lst.length = (cosL q t k).length ∧ (∀ (j : Nat) (u : Value) (c : List Nat),lst[j]? = some u → (cosL q t k)[j]? = some c → OwnI (gi + 1) u (nzl c) wz)) := ⟨a1,a2,a3⟩
               clear a1 a2 a3
               go_wp2_with (at_builtin; refine append_sl rfl _ _ rfl (gi + 1) u9 lst rfl (HA.out.1.below ((Below.refl _ _).alloc (Nat.le_refl _) _) (Nat.le_refl _)) ⟨wz.heap.size,0,none⟩ 1 (.slice so sk sc) rfl rfl (by rw [cell_of_row _ _ _ _ _ (0,0) (two_new _)]; rfl) hll (by simp; omega) ?_; intro v6 w6 hown6 hg6)
               have HN : Hid (RowF gi t 4 (fun x => .bool (inB q t (k + 1) x)) w6 ∧ NLs (gi + 1) v6 (cosL q t (k + 1)) w6 ∧ Below gi w2 w6) := by
                 have hbl : ∀ i,u9.ownBlock = some i → gi + 1 ≤ i := fun i hi => (World.ownsRow.lt HA.out.1 i hi).1
                 refine ⟨((HK.out.1.below HL.out.2 (by omega)).alloc _).grown hg6 (fun e => by have := hbl gi e.symm; omega), ?_,((HK.out.2.2.2.trans (HL.out.2.mono (by omega))).alloc (by omega) _).grown hg6 (by simp; omega) (fun i hi => by have := hbl i hi; omega)⟩
                 rw [cosL_new HF.out]
                 have hoA := HA.out.1.below ((Below.refl wz.heap.size wz).alloc (Nat.le_refl _) (.cells #[.slice so sk sc] 22)) (Nat.le_refl _)
                 exact NLs.push HA.out.2.1 (fun j u c hu hc => (HA.out.2.2 j u c hu hc).alloc _) (HV.out.1.alloc _) (fun x d h => h.kept hg6 (own_apartT h hoA)) hown6
               clear hown6 hg6
               go_roundw
               case rel => exact ⟨k + 1,by omega,by go_num,HN.out⟩
               case measure => simp [intOf]; omega
   · have hib : ¬ (k : Int) < (n : Int) := by omega
     have hke : k = n := by omega
     subst hke
     have HN : Hid (NLs w.heap.size u9 (cosL E.q k k) wr ∧ Below w.heap.size w wr) := by
       have h1 := H2.out.size
       have h2 := H3.out.2.2.2
       have h3 := HI.out.2.2
       rw [h2] at h3
       refine ⟨?_,bel_up' H2.out h3⟩
       rw [← HQ.out]
       obtain ⟨l,a1,a2,a3⟩ := HI.out.2.1
       exact ⟨l,a1.mono (by omega),a2,fun j u c hu hc => (a3 j u c hu hc).mono (by omega)⟩
     go_wp2
     go_ret2
     exact ⟨_,rfl,HN.out⟩
set_option maxHeartbeats 4000000 in
set_option maxRecDepth 100000 in
theorem rcos_err {E : FD} (hE : E ∈ fieldsL) {n : Int} (h : cyc E n ≠ 0) (w : World) :
   Calls Tryz.prog 8 #[.int .i64 E.q, .int .i64 n] w fun x w' => x = .returned (.tuple #[.slice none 0 0, .int .i64 (cyc E n)]) ∧ Below w.heap.size w w' := by
 have HE : Hid (E ∈ fieldsL) := hE
 have hp2 := (fld hE).p2
 have hp64 := (fld hE).p64
 obtain ⟨e,he⟩ : ∃ e,e = cyc E n := ⟨_,rfl⟩
 rw [← he]
 rw [← he] at h
 unfold cyc at he
 have H2 : ∀ w1 : World,Below w.heap.size w w1 → ∀ o,Below w.heap.size w (w1.alloc o) := fun w1 hb o => bel_up' hb ((Below.refl _ _).alloc (Nat.le_refl _) o)
 have HB : Hid (∀ w1 : World,Below w.heap.size w w1 → ∀ o,Below w.heap.size w (w1.alloc o)) := H2
 clear H2 hE
 by_cases hr : n < 1 ∨ 64 < n
 · rw [if_pos hr] at he
   subst he
   by_cases h1 : n < 1
   · go_enter Tryz.func8,Tryz.ntmps8
     go_wp2_with fail
     refine (rfield_sl HE.out w).mono ?_
     rintro e w1 ⟨gm,cm,rfl,_,hb1⟩
     unfold rf
     have H1 : Hid (Below w.heap.size w w1) := hb1
     clear hb1
     go_wp2
     go_ret2
     exact ⟨rfl,HB.out _ H1.out _⟩
   · have h2 : n > 64 := by omega
     have h3 : (64 : Int) < n := by omega
     clear hr
     go_enter Tryz.func8,Tryz.ntmps8
     go_wp2_with fail
     refine (rfield_sl HE.out w).mono ?_
     rintro e w1 ⟨gm,cm,rfl,_,hb1⟩
     unfold rf
     have H1 : Hid (Below w.heap.size w w1) := hb1
     clear hb1
     go_wp2
     go_ret2
     exact ⟨rfl,HB.out _ H1.out _⟩
 · rw [if_neg hr] at he
   obtain ⟨m,hm⟩ : ∃ m : Nat,n = (m : Int) := ⟨n.toNat,by omega⟩
   subst hm
   rw [Int.toNat_natCast] at he
   by_cases hz : m % E.p = 0
   · rw [if_pos hz] at he
     subst he
     have g1 : ¬ (m : Int) < 1 := by omega
     have g2 : ¬ (m : Int) > 64 := by omega
     have g3 : ¬ (64 : Int) < (m : Int) := by omega
     obtain ⟨p,hpe⟩ : ∃ p,p = E.p := ⟨_,rfl⟩
     rw [← hpe] at hz hp2 hp64
     have hp0 : ¬ (p : Int) = 0 := by omega
     have hp0b : ((p : Int) == 0) = false := by rw [beq_eq_false_iff_ne]; omega
     have hrm : (m : Int).tmod (p : Int) = 0 := by rw [Int.tmod_eq_emod_of_nonneg (by omega)]; omega
     have hre : (m : Int) % (p : Int) = 0 := by omega
     clear hr hz
     go_enter Tryz.func8,Tryz.ntmps8
     go_wp2_with fail
     refine (rfield_sl HE.out w).mono ?_
     rintro e w1 ⟨gm,cm,rfl,_,hb1⟩
     unfold rf
     rw [← hpe]
     have H1 : Hid (Below w.heap.size w w1) := hb1
     clear hb1 hpe
     go_wp2
     go_ret2
     exact ⟨rfl,HB.out _ H1.out _⟩
   · rw [if_neg hz] at he
     exact absurd he h
set_option maxHeartbeats 4000000 in
set_option maxRecDepth 100000 in
theorem rcos_none (q n : Int) (w : World) (h : ∀ D ∈ fieldsL, (D.q : Int) ≠ q) :
   Calls Tryz.prog 8 #[.int .i64 q, .int .i64 n] w fun x w' => x = .returned (.tuple #[.slice none 0 0, .int .i64 1]) ∧ Below w.heap.size w w' := by
 have HR : Hid (Calls Tryz.prog 33 #[.int .i64 q] w fun e w' => e = .returned (.tuple #[rf0, .int .i64 1]) ∧ Below w.heap.size w w') := rfield_none q w h
 clear h
 have HB : Hid (∀ w1 : World,Below w.heap.size w w1 → ∀ o,Below w.heap.size w (w1.alloc o)) := fun w1 hb o => bel_up' hb ((Below.refl _ _).alloc (Nat.le_refl _) o)
 go_enter Tryz.func8,Tryz.ntmps8
 go_wp2_with fail
 refine HR.out.mono ?_
 rintro e w1 ⟨rfl,hb1⟩
 unfold rf0
 have H1 : Hid (Below w.heap.size w w1) := hb1
 clear hb1
 go_wp2
 go_ret2
 exact ⟨rfl,HB.out _ H1.out _⟩
set_option maxHeartbeats 4000000 in
theorem pcos_err {q n e : Int} {w : World} (h0 : e ≠ 0)
   (hC : Calls Tryz.prog 30 #[.int .i64 q, .int .i64 n] w fun x w' => x = .returned (.int .i64 e) ∧ Below w.heap.size w w') :
   Calls Tryz.prog 7 #[.int .i64 q, .int .i64 n] w fun x w' => x = .returned (.tuple #[.slice none 0 0, .int .i64 e]) ∧ Below w.heap.size w w' := by
 have HC : Hid (Calls Tryz.prog 30 #[.int .i64 q, .int .i64 n] w fun x w' => x = .returned (.int .i64 e) ∧ Below w.heap.size w w') := hC
 clear hC
 go_enter Tryz.func7,Tryz.ntmps7
 go_wp2_with fail
 refine HC.out.mono ?_
 rintro x w1 ⟨rfl,hb⟩
 have HB : Hid (Below w.heap.size w w1) := hb
 have hne : (e != 0) = true := by rw [bne_iff_ne]; exact h0
 clear hb
 go_wp2
 go_ret2
 exact ⟨rfl,HB.out⟩
set_option maxHeartbeats 4000000 in
set_option maxRecDepth 100000 in
theorem rzer_e1 {q n e : Int} {zo : Option Addr} {m zc : Nat} {w : World} (h0 : e ≠ 0)
   (hC : Calls Tryz.prog 8 #[.int .i64 q, .int .i64 n] w fun x w' => x = .returned (.tuple #[.slice none 0 0, .int .i64 e]) ∧ Below w.heap.size w w') :
   Calls Tryz.prog 43 #[.int .i64 q, .int .i64 n, .slice zo m zc] w fun x w' => x = .returned (.tuple #[.slice none 0 0, .int .i64 e]) ∧ Below w.heap.size w w' := by
 have HC : Hid (Calls Tryz.prog 8 #[.int .i64 q, .int .i64 n] w fun x w' => x = .returned (.tuple #[.slice none 0 0, .int .i64 e]) ∧ Below w.heap.size w w') := hC
 clear hC
 go_enter Tryz.func43,Tryz.ntmps43
 go_wp2_with fail
 refine HC.out.mono ?_
 rintro x w1 ⟨rfl,hb⟩
 have HB : Hid (Below w.heap.size w w1) := hb
 have hne : (e != 0) = true := by rw [bne_iff_ne]; exact h0
 clear hb
 go_wp2
 go_ret2
 exact ⟨rfl,HB.out⟩
set_option maxHeartbeats 4000000 in
set_option maxRecDepth 100000 in
theorem rzer_e2 {q n : Int} {zo : Option Addr} {m zc : Nat} {w : World} {P : Value → World → Prop} (h0 : 64 < m) (hm : m ≤ 1000000)
   (hC : Calls Tryz.prog 8 #[.int .i64 q, .int .i64 n] w fun x w' => ∃ v,x = .returned (.tuple #[v, .int .i64 0]) ∧ P v w' ∧ Below w.heap.size w w') :
   Calls Tryz.prog 43 #[.int .i64 q, .int .i64 n, .slice zo m zc] w fun x w' => x = .returned (.tuple #[.slice none 0 0, .int .i64 4]) ∧ Below w.heap.size w w' := by
 have HC : Hid (Calls Tryz.prog 8 #[.int .i64 q, .int .i64 n] w fun x w' => ∃ v,x = .returned (.tuple #[v, .int .i64 0]) ∧ P v w' ∧ Below w.heap.size w w') := hC
 clear hC
 have h1 : (m : Int) > 64 := by omega
 have h2 : (64 : Int) < (m : Int) := by omega
 go_enter Tryz.func43,Tryz.ntmps43
 go_wp2_with fail
 refine HC.out.mono ?_
 rintro x w1 ⟨v,rfl,_,hb⟩
 have HB : Hid (Below w.heap.size w w1) := hb
 clear hb
 go_wp2
 go_ret2
 exact ⟨rfl,HB.out⟩
end Go.Proofs.YtppggchhkckobaaGreat
namespace Go.Proofs.YtppggchhkckobaaGreat
def trw (D : FD) (n k : Nat) (g : Nat → Nat) : Nat → Nat → Nat
 | 0 => pnil
 | i + 1 => fun j => if j = (i + k) % n then D.ad (trw D n k g i j) (g i) else trw D n k g i j
theorem trw_el {D : FD} (F : Fld D) {n k : Nat} {g : Nat → Nat} (eg : El D g) : ∀ i,El D (trw D n k g i)
 | 0 => el_nil F
 | i + 1 => fun j => by
   show (if j = (i + k) % n then D.ad (trw D n k g i j) (g i) else trw D n k g i j) < D.q
   split
   · exact ad_lt F (trw_el F eg i j) (eg i)
   · exact trw_el F eg i j
theorem trw_bd {D : FD} {n k : Nat} {g : Nat → Nat} (hn : 1 ≤ n) : ∀ i,Bd n (trw D n k g i)
 | 0 => fun _ _ => rfl
 | i + 1 => fun j hj => by
   show (if j = (i + k) % n then D.ad (trw D n k g i j) (g i) else trw D n k g i j) = 0
   have h := Nat.mod_lt (i + k) hn
   rw [if_neg (by omega)]
   exact trw_bd hn i j hj
theorem mod_next {a n : Nat} (hn : 1 ≤ n) : (a + 1) % n = if a % n = n - 1 then 0 else a % n + 1 := by
 have h := Nat.mod_lt a hn
 rw [Nat.add_mod]
 by_cases c : a % n = n - 1
 · rw [if_pos c,c]
   by_cases h1 : n = 1
   · subst h1; rfl
   · rw [Nat.mod_eq_of_lt (show 1 < n by omega),show n - 1 + 1 = n by omega,Nat.mod_self]
 · rw [if_neg c,Nat.mod_eq_of_lt (show 1 < n by omega),Nat.mod_eq_of_lt (by omega)]
theorem trw_turn {D : FD} {n k : Nat} {g : Nat → Nat} (hn : 1 ≤ n) : ∀ i,trw D n (k + 1) g i = twd n (trw D n k g i)
 | 0 => (twd_nil n).symm
 | i + 1 => by
   have ih := fun j => congrFun (trw_turn (D := D) (k := k) (g := g) hn i) j
   have hm := Nat.mod_lt (i + k) hn
   have hs := mod_next (a := i + k) hn
   funext j
   show (if j = (i + (k + 1)) % n then D.ad (trw D n (k + 1) g i j) (g i) else trw D n (k + 1) g i j) = (if j = 0 then trw D n k g (i + 1) (n - 1) else if j < n then trw D n k g (i + 1) (j - 1) else 0)
   have ihj := ih j
   unfold twd at ihj
   rw [show i + (k + 1) = i + k + 1 by omega,hs]
   have hx : ∀ x,trw D n k g (i + 1) x = if x = (i + k) % n then D.ad (trw D n k g i x) (g i) else trw D n k g i x := fun _ => rfl
   rw [hx,hx]
   by_cases c0 : j = 0
   · rw [if_pos c0] at ihj ⊢
     rw [ihj]
     by_cases c1 : (i + k) % n = n - 1
     · rw [if_pos c1,if_pos c0,if_pos c1.symm]
     · rw [if_neg c1,if_neg (by omega),if_neg (fun h => c1 h.symm)]
   · rw [if_neg c0] at ihj ⊢
     by_cases c2 : j < n
     · rw [if_pos c2] at ihj ⊢
       rw [ihj]
       by_cases c1 : (i + k) % n = n - 1
       · rw [if_pos c1,if_neg c0,if_neg (by omega)]
       · rw [if_neg c1]
         by_cases c3 : j = (i + k) % n + 1
         · rw [if_pos c3,if_pos (by omega)]
         · rw [if_neg c3,if_neg (by omega)]
     · rw [if_neg c2] at ihj ⊢
       rw [if_neg,ihj]
       split
       · omega
       · omega
theorem trw_zero {D : FD} (F : Fld D) {n : Nat} {g : Nat → Nat} (eg : El D g) : ∀ i,i ≤ n → ∀ j,trw D n 0 g i j = if j < i then g j else 0
 | 0,_,j => by rw [if_neg (by omega)]; rfl
 | i + 1,hi,j => by
   show (if j = (i + 0) % n then D.ad (trw D n 0 g i j) (g i) else trw D n 0 g i j) = _
   rw [Nat.add_zero,Nat.mod_eq_of_lt (show i < n by omega),trw_zero F eg i (by omega) j]
   by_cases c : j = i
   · rw [if_pos c,if_neg (by omega),if_pos (by omega),ad_comm F,ad_zero F (eg i),c]
   · rw [if_neg c]
     by_cases c2 : j < i
     · rw [if_pos c2,if_pos (by omega)]
     · rw [if_neg c2,if_neg (by omega)]
theorem trw_low {D : FD} (F : Fld D) {n M K : Nat} {g : Nat → Nat} (eg : El D g) (bg : Bd M g) (hn : 1 ≤ n) (hK : K + M = n + 1) : ∀ k,k < K → trw D n k g M = psh k g
 | 0,h => by
   funext j
   rw [trw_zero F eg M (by omega) j]
   have e : psh 0 g j = g j := by
     show (if 0 ≤ j then g (j - 0) else 0) = g j
     rw [if_pos (Nat.zero_le j),Nat.sub_zero]
   rw [e]
   by_cases c : j < M
   · rw [if_pos c]
   · rw [if_neg c,bg j (by omega)]
 | k + 1,h => by
   rw [trw_turn hn,trw_low F eg bg hn hK k (by omega)]
   funext j
   show (if j = 0 then (if k ≤ n - 1 then g (n - 1 - k) else 0) else if j < n then (if k ≤ j - 1 then g (j - 1 - k) else 0) else 0) = if k + 1 ≤ j then g (j - (k + 1)) else 0
   by_cases c1 : j = 0
   · rw [if_pos c1,if_pos (by omega),if_neg (by omega),bg _ (by omega)]
   · rw [if_neg c1]
     by_cases c2 : j < n
     · rw [if_pos c2]
       by_cases c3 : k + 1 ≤ j
       · rw [if_pos c3,if_pos (by omega),show j - 1 - k = j - (k + 1) by omega]
       · rw [if_neg c3,if_neg (by omega)]
     · rw [if_neg c2,if_pos (by omega),bg _ (by omega)]
theorem trw_in {D : FD} (hD : D ∈ fieldsL) {g Q : Nat → Nat} {M n K : Nat} (hM : 1 ≤ M) (eg : El D g) (bg : Bd M g) (hK : K + M = n + 1) (hn : 1 ≤ n) (hQ : pmul D (K + 1) Q g = whl D n) : ∀ k,Spn D (RowsOf K fun i => psh i g) (trw D n k g M)
 | 0 => by
   have F := fld hD
   by_cases c : 0 < K
   · rw [trw_low F eg bg hn hK 0 c]
     exact spn_mem F (el_sh F 0 eg) ⟨0,c,rfl⟩
   · have hK0 : K = 0 := by omega
     have hMn : M = n + 1 := by omega
     subst hK0
     have hq : ∀ j,D.mul (Q 0) (g j) = whl D n j := fun j => by
       have h := congrFun hQ j
       have h2 : pmul D (0 + 1) Q g j = D.ad 0 (D.mul (Q 0) (g j)) := by
         show D.ad (pnil j) (if 0 ≤ j then D.mul (Q 0) (g (j - 0)) else 0) = _
         rw [if_pos (by omega),Nat.sub_zero]; rfl
       rw [h2,ad_comm F,ad_zero F (F.mul_lt _ _)] at h
       exact h
     have e0 : D.mul (Q 0) (g 0) = D.ng 1 := by
       rw [hq 0]; unfold whl; rw [if_neg (by omega),if_pos rfl]
     have en : D.mul (Q 0) (g n) = 1 := by
       rw [hq n]; unfold whl; rw [if_pos rfl]
     have hQ0 : Q 0 ≠ 0 := fun h => by
       rw [h,F.mul_comm,mul0 F] at en; omega
     have hs : D.ad (g 0) (g n) = 0 := by
       refine Classical.byContradiction fun c => (F.mul_ne (Q 0) _ hQ0 c).1 ?_
       rw [mul_ad F (eg 0) (eg n),e0,en,ad_comm F]
       exact ad_ng F (one_lt' F)
     have e : trw D n 0 g M = pnil := by
       rw [hMn]
       funext j
       show (if j = (n + 0) % n then D.ad (trw D n 0 g n j) (g n) else trw D n 0 g n j) = 0
       rw [Nat.add_zero,Nat.mod_self,trw_zero F eg n (Nat.le_refl _) j]
       by_cases c0 : j = 0
       · rw [if_pos c0,if_pos (by omega),c0]; exact hs
       · rw [if_neg c0]
         by_cases c1 : j < n
         · rw [if_pos c1]
           have h0 : D.mul (Q 0) (g j) = 0 := by rw [hq j]; unfold whl; rw [if_neg (by omega),if_neg c0]
           exact Classical.byContradiction fun c => (F.mul_ne (Q 0) _ hQ0 c).1 h0
         · rw [if_neg c1]
     rw [e]
     exact spn_nil D _
 | k + 1 => by
   rw [trw_turn hn]
   exact twd_spn (fld hD) hM eg bg hK hn hQ (trw_in hD hM eg bg hK hn hQ k)
theorem trw_spn {D : FD} (hD : D ∈ fieldsL) {g Q : Nat → Nat} {M n K : Nat} (hM : 1 ≤ M) (eg : El D g) (bg : Bd M g) (hK : K + M = n + 1) (hn : 1 ≤ n) (hQ : pmul D (K + 1) Q g = whl D n) (v : Nat → Nat) : Spn D (RowsOf n fun k => trw D n k g M) v ↔ Spn D (RowsOf K fun i => psh i g) v := by
 have F := fld hD
 constructor
 · refine spn_le F (fun u hu => ?_)
   obtain ⟨k,_,rfl⟩ := hu
   exact trw_in hD hM eg bg hK hn hQ k
 · refine spn_le F (fun u hu => ?_)
   obtain ⟨k,hk,rfl⟩ := hu
   refine spn_mem F (el_sh F k eg) ⟨k,by omega,(trw_low F eg bg hn hK k hk).symm⟩
end Go.Proofs.YtppggchhkckobaaGreat
