/- Texts of ours, one behind the other: KT25 S76 KT26. -/
import Derived.Test.YtppggchhkckobaaGreatZKT22
import Derived.Test.YtppggchhkckobaaGreatZKT8
import Derived.Test.YtppggchhkckobaaGreatZL1
import Derived.Test.YtppggchhkckobaaGreatZR10
namespace Go.Proofs.YtppggchhkckobaaGreat
open Go.RowKit Go.Maps Go.Sort
theorem rsn_cos {q n k : Nat} {L : List Nat} (hn : 0 < n) (h : TgL q n (fun _ => k) 1 L) : rsn n L = cosR q n k := by
 unfold rsn cosR
 refine List.filter_congr (fun x _ => ?_)
 rw [Bool.eq_iff_iff,List.contains_iff_mem,h.mem x,orbB_iff hn]
 constructor
 · rintro ⟨i,_,j,e⟩; exact ⟨j,e⟩
 · rintro ⟨j,e⟩; exact ⟨0,by omega,j,e⟩
theorem cos_apart {q n k x : Nat} (hn : 0 < n) (hO : Ord q n) (hk : k < n) (h : inB q n k k = false) (hx : orbB q n k x = true) : inB q n k x = false := by
 cases hi : inB q n k x with
 | false => rfl
 | true =>
   obtain ⟨j,hj,h1⟩ := List.any_eq_true.1 hi
   obtain ⟨a,ha⟩ := (orbB_iff hn).1 h1
   obtain ⟨b,hb⟩ := (orbB_iff hn).1 hx
   obtain ⟨c,hc⟩ := hO.sym hk hb
   have h2 : orbB q n j k = true := (orbB_iff hn).2 ⟨a + c,by rw [← orb_orb,ha,hc]⟩
   have h3 : inB q n k k = true := List.any_eq_true.2 ⟨j,hj,h2⟩
   rw [h] at h3; cases h3
theorem inB_lt {q n k x : Nat} (hn : 0 < n) (h : inB q n k x = true) : x < n := by
 obtain ⟨j,_,h1⟩ := List.any_eq_true.1 h
 obtain ⟨a,ha⟩ := (orbB_iff hn).1 h1
 rw [← ha]; exact orb_lt hn
theorem cosR_mem {q n k x : Nat} (hn : 0 < n) : x ∈ cosR q n k ↔ orbB q n k x = true := by
 unfold cosR
 rw [List.mem_filter,List.mem_range]
 refine ⟨fun h => h.2,fun h => ⟨?_,h⟩⟩
 obtain ⟨a,ha⟩ := (orbB_iff hn).1 h
 rw [← ha]; exact orb_lt hn
structure SeL (q n k : Nat) (L : List Nat) : Prop where
 nd : L.Nodup
 mem : ∀ x,x ∈ L ↔ inB q n k x = true
theorem SeL.next {q n k : Nat} {L : List Nat} (hn : 0 < n) (hO : Ord q n) (hk : k < n) (h : SeL q n k L) (hf : inB q n k k = false) : SeL q n (k + 1) (L ++ cosR q n k) := by
 refine ⟨?_,fun x => ?_⟩
 · rw [List.nodup_append]
   refine ⟨h.nd,List.nodup_range.filter _,fun a ha b hb e => ?_⟩
   rw [← e] at hb
   have h1 := (h.mem a).1 ha
   rw [cos_apart hn hO hk hf ((cosR_mem hn).1 hb)] at h1
   cases h1
 · rw [List.mem_append,h.mem x,cosR_mem hn,inB_succ,Bool.or_eq_true]
theorem cosR_len {q n k : Nat} : (cosR q n k).length ≤ n := by
 have := List.length_filter_le (orbB q n k) (List.range n)
 rwa [List.length_range] at this
set_option maxHeartbeats 16000000 in
set_option maxRecDepth 100000 in
theorem pcos_ok {E : FD} (hE : E ∈ fieldsL) {n : Nat} (hn1 : 1 ≤ n) (hn : n ≤ 64) (hp : n % E.p ≠ 0) (w : World) :
   Calls Tryz.prog 7 #[.int .i64 E.q, .int .i64 (n : Nat)] w fun x w' => ∃ v,x = .returned (.tuple #[v, .int .i64 0]) ∧ NLs w.heap.size v (cosL E.q n n) w' ∧ Below w.heap.size w w' := by
 have hq64 := (fld hE).q64
 have HO : Hid (Ord E.q n) := ord_of hE hn1 hn hp
 have HC : Hid (Calls Tryz.prog 30 #[.int .i64 E.q, .int .i64 (n : Nat)] w fun x w' => x = .returned (.int .i64 0) ∧ Below w.heap.size w w') := by
   have hc := cychk_any hE (n : Int) w
   have e : cyc E (n : Int) = 0 := by
     unfold cyc
     rw [if_neg (by omega),Int.toNat_natCast,if_neg hp]
   rw [e] at hc
   exact hc
 obtain ⟨q,hqe⟩ : ∃ q,q = E.q := ⟨_,rfl⟩
 rw [← hqe] at HO HC hq64 ⊢
 have hmm := @run_makeMap Tryz.prog
 clear hE hp hqe
 go_enter Tryz.func7,Tryz.ntmps7
 go_wp2_with fail
 refine HC.out.mono ?_
 rintro x w1 ⟨rfl,hb1⟩
 clear HC
 obtain ⟨B,hB⟩ : ∃ B,B = w1.heap.size := ⟨_,rfl⟩
 have H1 : Hid (Below w.heap.size w w1 ∧ B = w1.heap.size) := ⟨hb1,hB⟩
 have H0 : Hid (Tg B [] (w1.alloc (.map #[] 0)) ∧ Below B w1 (w1.alloc (.map #[] 0))) := by
   rw [hB]
   exact ⟨⟨.map [],World.ownsMap_made _ _ _ _,TgD.nil⟩,(Below.refl _ _).alloc (Nat.le_refl _) _⟩
 clear hb1
 go_wp2
 rw [← hB]
 clear hB
 go_loopw [7,21] (fun vl vk wr => ∃ (k : Nat) (L : List Nat),k ≤ n ∧ vk = .int .i64 (k : Nat) ∧ Hid (Tg B L wr ∧ SeL q n k L ∧ NLs (B + 1) vl (cosL q n k) wr ∧ Below B w1 wr ∧ B < wr.heap.size)) (fun _ vk _ => n - (RowKit.intOf vk).toNat)
 case atStart => exact ⟨0, [],by omega,rfl,H0.out.1,⟨List.nodup_nil,fun x => ⟨fun h => (by cases h),fun h => (by cases h)⟩⟩,NLs.nil _ _,H0.out.2,by rw [H1.out.2]; simp⟩
 case round =>
   obtain ⟨k,L,hk,rfl,HI⟩ := hrel
   rename World => wr
   by_cases hlt : k < n
   · have hib : (k : Int) < (n : Int) := by omega
     have hib0 : (0 : Int) ≤ (k : Int) := by omega
     obtain ⟨D,hown,hD⟩ := HI.out.1
     have hlen : L.length ≤ n := nd_len HI.out.2.1.nd (fun x hx => inB_lt (by omega) ((HI.out.2.1.mem x).1 hx))
     have HOw : Hid (wr.ownsMap Tryz.prog 3 (plainElem Tryz.prog 3) B L.length D ∧ TgD D L ∧ L.length ≤ n) := ⟨hown,hD,hlen⟩
     have hkw : (Lit.int .i64 (k : Nat)).wf = true := ct_wf (by omega)
     clear hown hD hlen
     cases hin : inB q n k k with
     | true =>
       have hmem : k ∈ L := (HI.out.2.1.mem k).2 hin
       have HN : Hid (SeL q n (k + 1) L ∧ NLs (B + 1) u7 (cosL q n (k + 1)) wr) := by
         refine ⟨⟨HI.out.2.1.nd,fun x => by rw [inB_same (by omega) hin]; exact HI.out.2.1.mem x⟩, ?_⟩
         rw [cosL_skip hin]; exact HI.out.2.2.1
       clear hin
       go_wp2_with (at_lookup; refine wpList_lookup_own_int _ rfl _ _ 55 rfl 3 3 .i64 ct_law ct_map cty_int (ct_zero _) B L.length _ rfl HOw.out.1 _ _ rfl (ct_key _ hkw) ?_; intro c hat hwc; obtain rfl : c = 1 := lit_inj (hat.symm.trans (HOw.out.2.1.yes k hmem)); clear hat hwc)
       go_roundw
       case rel => exact ⟨k + 1,L,by omega,by go_num,HI.out.1,HN.out.1,HN.out.2,HI.out.2.2.2⟩
       case measure => simp [RowKit.intOf]; omega
     | false =>
       have hmem : k ∉ L := fun h => by have := (HI.out.2.1.mem k).1 h; rw [hin] at this; cases this
       have HF : Hid (inB q n k k = false) := hin
       clear hin
       obtain ⟨wa,hwa⟩ : ∃ wa,wa = wr.alloc (.cells #[.int .i64 (k : Nat)] 3) := ⟨_,rfl⟩
       obtain ⟨ga,hga⟩ : ∃ ga,ga = wr.heap.size := ⟨_,rfl⟩
       have Ha : Hid (Below wr.heap.size wr wa ∧ wr.heap.size < wa.heap.size ∧ SlZ (some ⟨ga,0,none⟩) 1 (fun i => (((fun _ : Nat => k) i : Nat) : Int)) wa ∧ LtB (some ⟨ga,0,none⟩) wa.heap.size) := by
         rw [hwa,hga]
         refine ⟨(Below.refl _ _).alloc (Nat.le_refl _) _,by simp,fun j hj => ⟨wr.heap.size,0,rfl, ?_⟩,fun x hx => by cases hx; simp⟩
         have : j = 0 := by omega
         subst this
         exact two_cell wr _
       have HTo : Hid (Calls Tryz.prog 32 #[.int .i64 (q : Nat), .int .i64 (n : Nat), .slice (some ⟨ga,0,none⟩) 1 1] wa fun e w' => ∃ L',e = .returned (.map (some wa.heap.size)) ∧ Tg wa.heap.size L' w' ∧ TgL q n (fun _ => k) 1 L' ∧ Below wa.heap.size wa w') := cytog_any hq64 hn1 hn (by omega) Ha.out.2.2.1 Ha.out.2.2.2 (fun _ _ => hlt)
       go_wp2_with (first
         | (at_lookup; refine wpList_lookup_own_int _ rfl _ _ 55 rfl 3 3 .i64 ct_law ct_map cty_int (ct_zero _) B L.length _ rfl HOw.out.1 _ _ rfl (ct_key _ hkw) ?_; intro c hat hwc; obtain rfl : c = 0 := lit_inj (hat.symm.trans (HOw.out.2.1.no k hmem)); clear hat hwc))
       rw [← hwa]
       try rw [← hga]
       clear hwa hga
       refine HTo.out.mono ?_
       rintro e w2 ⟨L',rfl,hT2,hL2,hb2⟩
       have HL : Hid (rsn n L' = cosR q n k) := rsn_cos (by omega) hL2
       have H2 : Hid (Below wr.heap.size wr w2) := bel_up' Ha.out.1 hb2
       have HRi : Hid (Calls Tryz.prog 31 #[.map (some wa.heap.size)] w2 fun e w' => ∃ v,e = .returned v ∧ OwnI w2.heap.size v (nzl (cosR q n k)) w' ∧ Below w2.heap.size w2 w') := by
         rw [← HL.out]
         exact rising_any hT2 hL2.nd hL2.lt hn
       clear hT2 hL2 hb2 HTo
       go_wp2_with fail
       refine HRi.out.mono ?_
       rintro e w3 ⟨v,rfl,hv3,hb3⟩
       obtain ⟨C,hC⟩ : ∃ C,C = cosR q n k := ⟨_,rfl⟩
       rw [← hC] at hv3
       obtain ⟨N,hN⟩ : ∃ N,N = C.length := ⟨_,rfl⟩
       obtain ⟨so,sc,hvs,hA3⟩ := hv3.argOf (n := N) (by unfold nzl; rw [List.length_map,hN])
       subst hvs
       have hN64 : N ≤ 64 := by rw [hN,hC]; exact Nat.le_trans cosR_len hn
       have HCm : Hid (C = cosR q n k ∧ N = C.length) := ⟨hC,hN⟩
       have H3 : Hid (OwnI (B + 1) (.slice so N sc) (nzl C) w3 ∧ SlZ so N (fun i => ((C.getD i 0 : Nat) : Int)) w3 ∧ LtB so w3.heap.size ∧ (∀ a,so = some a → B + 1 ≤ a.block) ∧ Below wr.heap.size wr w3 ∧ NLs (B + 1) u7 (cosL q n k) w3 ∧ Tg B L w3 ∧ Below B w1 w3 ∧ B < w3.heap.size) := by
         have hb13 := bel_up' H2.out hb3
         have hBw := HI.out.2.2.2.2
         have hs2 := H2.out.size
         refine ⟨hv3.mono (by omega),fun i hi => ?_,hA3.lt,fun a ha => ?_,hb13,HI.out.2.2.1.below hb13,HI.out.1.below hb13,HI.out.2.2.2.1.trans (hb13.mono (by omega)),by have := hb13.size; omega⟩
         · obtain ⟨b,off,e,c⟩ := hA3.sl i hi
           refine ⟨b,off,e,c.trans ?_⟩
           show some (Value.int .i64 ((nzl C).getD i 0)) = some (Value.int .i64 ((C.getD i 0 : Nat) : Int))
           unfold nzl
           rw [List.getD_eq_getElem?_getD,List.getD_eq_getElem?_getD,List.getElem?_map,List.getElem?_eq_getElem (by rw [← hN]; exact hi)]
           rfl
         · subst ha
           have := (hv3.lt a.block rfl).1
           omega
       clear hC hN hv3 hA3 hb3 HRi H2 HL Ha HOw hmem hkw
       go_wp2
       go_loopw [36] (fun vi wx => ∃ t : Nat,t ≤ N ∧ vi = .int .i64 (t : Nat) ∧ Hid (Tg B (L ++ C.take t) wx ∧ w3.grownBy wx (some B))) (fun vi _ => N - (RowKit.intOf vi).toNat)
       case atStart => exact ⟨0,by omega,rfl,by rw [List.take_zero,List.append_nil]; exact H3.out.2.2.2.2.2.2.1,grown_refl _ _⟩
       case round =>
         obtain ⟨t,ht,rfl,HJ⟩ := hrel
         rename World => wx
         by_cases htn : t < N
         · have htb : (t : Int) < (N : Int) := by omega
           have htb0 : (0 : Int) ≤ (t : Int) := by omega
           obtain ⟨x,hx⟩ : ∃ x,x = C.getD t 0 := ⟨_,rfl⟩
           obtain ⟨bx,ox,hxo,cx0⟩ := H3.out.2.1 t htn
           have lx := H3.out.2.2.1 _ hxo
           have nx := H3.out.2.2.2.1 _ hxo
           have cx : wx.cell? ⟨bx,ox + t,none⟩ = some (.int .i64 (x : Nat)) := by
             rw [hx]
             exact HJ.out.2.cell cx0 (by show some bx ≠ some B; intro e; cases e; have nx : B + 1 ≤ B := nx; omega)
           have hxm : x ∈ C := by
             rw [hx,List.getD_eq_getElem?_getD,List.getElem?_eq_getElem (by rw [← HCm.out.2]; exact htn)]
             exact List.getElem_mem _
           have htk : C.take (t + 1) = C.take t ++ [x] := by
             rw [List.take_add_one,hx,List.getD_eq_getElem?_getD,List.getElem?_eq_getElem (by rw [← HCm.out.2]; exact htn)]
             rfl
           have hnd := HI.out.2.1.next (by omega) HO.out hlt HF.out
           rw [← HCm.out.1] at hnd
           have hnx : x ∉ L ++ C.take t := fun h => by
             have h1 := hnd.nd
             have h2 : (L ++ C.take (t + 1)).Nodup := h1.sublist (List.Sublist.append (List.Sublist.refl _) (List.take_sublist _ _))
             rw [htk, ← List.append_assoc,List.nodup_append] at h2
             exact h2.2.2 x h x (List.mem_singleton.2 rfl) rfl
           have hxn : x < n := inB_lt (k := k + 1) (by omega) ((hnd.mem x).1 (List.mem_append.2 (Or.inr hxm)))
           have hle : (L ++ C.take t).length ≤ n := by
             refine nd_len (h := (hnd.nd.sublist (List.Sublist.append (List.Sublist.refl _) (List.take_sublist t C)))) (fun y hy => ?_)
             refine inB_lt (k := k + 1) (by omega) ((hnd.mem y).1 ?_)
             rcases List.mem_append.1 hy with c | c
             · exact List.mem_append.2 (Or.inl c)
             · exact List.mem_append.2 (Or.inr (List.mem_of_mem_take c))
           obtain ⟨D',hown,hD⟩ := HJ.out.1
           have HOw : Hid (wx.ownsMap Tryz.prog 3 (plainElem Tryz.prog 3) B (L ++ C.take t).length D' ∧ TgD D' (L ++ C.take t) ∧ (L ++ C.take t).length ≤ n ∧ x ∉ L ++ C.take t) := ⟨hown,hD,hle,hnx⟩
           have hxw : (Lit.int .i64 (x : Nat)).wf = true := ct_wf (by omega)
           have HTk : Hid (C.take (t + 1) = C.take t ++ [x]) := htk
           subst hxo
           clear hown hD hle hnx hxm hnd hx lx nx cx0 htk
           go_wp2_with (first
             | (at_lookup; refine wpList_lookup_own_int _ rfl _ _ 55 rfl 3 3 .i64 ct_law ct_map cty_int (ct_zero _) B (L ++ C.take t).length _ rfl HOw.out.1 _ _ rfl (ct_key _ hxw) ?_; intro c hat hwc; obtain rfl : c = 0 := lit_inj (hat.symm.trans (HOw.out.2.1.no x HOw.out.2.2.2)); clear hat hwc)
             | (at_mapUpdate; refine wpList_mapUpdate_own _ rfl _ _ _ 55 rfl 3 3 ct_law ct_map _ B (L ++ C.take t).length _ rfl HOw.out.1 (by have := HOw.out.2.2.1; unfold maxLen; omega) _ _ _ rfl rfl (ct_key _ hxw) _ [] (plainElem_int cty_int (by decide)) ?_; intro w5 hown5 hgrow5))
           have HN : Hid (Tg B (L ++ C.take (t + 1)) w5 ∧ w3.grownBy w5 (some B)) := by
             refine ⟨?_,grown_trans HJ.out.2 hgrow5⟩
             rw [HTk.out, ← List.append_assoc]
             exact ⟨_,by rw [List.length_append,List.length_singleton]; exact hown5,HOw.out.2.1.put x⟩
           clear hown5 hgrow5 cx
           go_roundw
           case rel => exact ⟨t + 1,by omega,by go_num,HN.out⟩
           case measure => simp [RowKit.intOf]; omega
         · have htb : ¬ (t : Int) < (N : Int) := by omega
           have hte : t = N := by omega
           subst hte
           have HV : Hid (OwnI (B + 1) (.slice so t sc) (nzl C) wx ∧ NLs (B + 1) u7 (cosL q n k) wx ∧ Tg B (L ++ C) wx ∧ Below B w1 wx ∧ B < wx.heap.size) := by
             have hs : ∀ g,B + 1 ≤ g → g < w3.heap.size → wx.heap[g]? = w3.heap[g]? := fun g h1 h2 => HJ.out.2.block g h2 (by intro e; cases e; omega)
             refine ⟨own_low H3.out.1 hs,H3.out.2.2.2.2.2.1.low hs, ?_,H3.out.2.2.2.2.2.2.2.1.grown HJ.out.2 (by have := H3.out.2.2.2.2.2.2.2.2; omega) (fun j hj => by cases hj; omega),by have := HJ.out.2.size; have := H3.out.2.2.2.2.2.2.2.2; omega⟩
             have h := HJ.out.1
             rw [HCm.out.2,List.take_length] at h
             exact h
           obtain ⟨lst,a1,a2,a3⟩ := HV.out.2.1
           have hll : lst.length ≤ 1000000 := by
             have := List.length_filter_le (fun j => !inB q n j j) (List.range k)
             unfold cosL at a2
             rw [List.length_map] at a2
             simp at this
             omega
           have HA : Hid (OwnV (B + 1) u7 lst wx ∧ lst.length = (cosL q n k).length ∧ (∀ (j : Nat) (u : Value) (c : List Nat),lst[j]? = some u → (cosL q n k)[j]? = some c → OwnI (B + 1) u (nzl c) wx)) := ⟨a1,a2,a3⟩
           have hBx := HV.out.2.2.2.2
           clear a1 a2 a3
           go_wp2_with (at_builtin; refine append_sl rfl _ _ rfl (B + 1) u7 lst rfl (HA.out.1.below ((Below.refl _ _).alloc (Nat.le_refl _) _) (Nat.le_refl _)) ⟨wx.heap.size,0,none⟩ 1 (.slice so t sc) rfl rfl (by rw [cell_of_row _ _ _ _ _ (0,0) (two_new _)]; rfl) hll (by simp; omega) ?_; intro v6 w6 hown6 hg6)
           have HN : Hid (Tg B (L ++ C) w6 ∧ SeL q n (k + 1) (L ++ C) ∧ NLs (B + 1) v6 (cosL q n (k + 1)) w6 ∧ Below B w1 w6 ∧ B < w6.heap.size) := by
             have hbl : ∀ i,u7.ownBlock = some i → B + 1 ≤ i := fun i hi => (World.ownsRow.lt HA.out.1 i hi).1
             have hbw : Below (B + 1) wx w6 := ((Below.refl _ _).alloc (by omega) _).grown hg6 (by simp; omega) (fun i hi => hbl i hi)
             refine ⟨?_, ?_, ?_,HV.out.2.2.2.1.trans (hbw.mono (by omega)),by have := hbw.size; omega⟩
             · obtain ⟨D1,⟨es,clock,hb,Ft,hs,hD1⟩,h2⟩ := HV.out.2.2.1
               exact ⟨D1,⟨es,clock,(hbw.block B (by omega)).trans hb,Ft,hs,hD1⟩,h2⟩
             · rw [HCm.out.1]; exact HI.out.2.1.next (by omega) HO.out hlt HF.out
             · rw [cosL_new HF.out, ← HCm.out.1]
               have hoA := HA.out.1.below ((Below.refl wx.heap.size wx).alloc (Nat.le_refl _) (.cells #[.slice so t sc] 22)) (Nat.le_refl _)
               exact NLs.push HA.out.2.1 (fun j u c hu hc => (HA.out.2.2 j u c hu hc).alloc _) (HV.out.1.alloc _) (fun x d h => h.kept hg6 (own_apartT h hoA)) hown6
           clear hown6 hg6
           go_roundw
           case rel => exact ⟨k + 1,L ++ C,by omega,by go_num,HN.out⟩
           case measure => simp [RowKit.intOf]; omega
   · have hib : ¬ (k : Int) < (n : Int) := by omega
     have hke : k = n := by omega
     subst hke
     have HN : Hid (NLs w.heap.size u7 (cosL q k k) wr ∧ Below w.heap.size w wr) := by
       have h1 := H1.out.1.size
       have h2 := H1.out.2
       have h3 := HI.out.2.2.2.1
       rw [h2] at h3
       refine ⟨?_,bel_up' H1.out.1 h3⟩
       obtain ⟨l,a1,a2,a3⟩ := HI.out.2.2.1
       exact ⟨l,a1.mono (by omega),a2,fun j u c hu hc => (a3 j u c hu hc).mono (by omega)⟩
     go_wp2
     go_ret2
     exact ⟨_,rfl,HN.out⟩
end Go.Proofs.YtppggchhkckobaaGreat
namespace Go.Proofs.YtppggchhkckobaaGreat
def inLs (Ls : List (List Nat)) (x : Nat) : Bool := Ls.any fun c => c.contains x
theorem inLs_app (A : List (List Nat)) (c : List Nat) (x : Nat) : inLs (A ++ [c]) x = (inLs A x || c.contains x) := by
 unfold inLs
 rw [List.any_append]
 simp
theorem cont_cosR {q n k x : Nat} (hn : 0 < n) : (cosR q n k).contains x = orbB q n k x := by
 rw [Bool.eq_iff_iff,List.contains_iff_mem,cosR_mem hn]
theorem inLs_cos {q n : Nat} (hn : 0 < n) : ∀ k x,inLs (cosL q n k) x = inB q n k x
 | 0,x => rfl
 | k + 1,x => by
   cases h : inB q n k k with
   | true => rw [cosL_skip h,inB_same hn h,inLs_cos hn k x]
   | false => rw [cosL_new h,inLs_app,inLs_cos hn k x,inB_succ,cont_cosR hn]
theorem orbB_self {q n x : Nat} (hx : x < n) : orbB q n x x = true := (orbB_iff (by omega)).2 ⟨0,orb_zero hx⟩
theorem inLs_all {q n x : Nat} (hx : x < n) : inLs (cosL q n n) x = true := by
 rw [inLs_cos (by omega)]
 exact List.any_eq_true.2 ⟨x,List.mem_range.2 hx,orbB_self hx⟩
theorem cosL_is {q n k : Nat} {c : List Nat} (h : c ∈ cosL q n k) : ∃ j,j < k ∧ c = cosR q n j := by
 unfold cosL at h
 obtain ⟨j,hj,rfl⟩ := List.mem_map.1 h
 exact ⟨j,List.mem_range.1 (List.mem_filter.1 hj).1,rfl⟩
def zrB (q n : Nat) (z : Nat → Nat) (m x : Nat) : Bool := (List.range m).any fun i => orbB q n (z i) x
theorem zrB_iff {q n m x : Nat} {z : Nat → Nat} (hn : 0 < n) : zrB q n z m x = true ↔ Clo q n z m x := by
 unfold zrB Clo
 rw [List.any_eq_true]
 constructor
 · rintro ⟨i,hi,h⟩; exact ⟨i,List.mem_range.1 hi,(orbB_iff hn).1 h⟩
 · rintro ⟨i,hi,h⟩; exact ⟨i,List.mem_range.2 hi,(orbB_iff hn).2 h⟩
def meB (z : Nat → Nat) (m : Nat) (c : List Nat) : Bool := c.any fun y => decide (((y : Nat) : Int) ∈ zl m fun i => ((z i : Nat) : Int))
theorem meB_iff {z : Nat → Nat} {m : Nat} {c : List Nat} : meB z m c = true ↔ ∃ y,y ∈ c ∧ ∃ i,i < m ∧ z i = y := by
 unfold meB
 rw [List.any_eq_true]
 constructor
 · rintro ⟨y,hy,h⟩
   obtain ⟨i,hi,e⟩ := zl_mem.1 (of_decide_eq_true h)
   exact ⟨y,hy,i,hi,by have e : ((z i : Nat) : Int) = (y : Int) := e; omega⟩
 · rintro ⟨y,hy,i,hi,e⟩
   exact ⟨y,hy,decide_eq_true (zl_mem.2 ⟨i,hi,by show ((z i : Nat) : Int) = (y : Int); omega⟩)⟩
theorem meB_cos {q n k m x : Nat} {z : Nat → Nat} (hn : 0 < n) (hO : Ord q n) (hk : k < n) (hz : ∀ i,i < m → z i < n) (hx : x ∈ cosR q n k) : meB z m (cosR q n k) = zrB q n z m x := by
 rw [Bool.eq_iff_iff,meB_iff,zrB_iff hn]
 obtain ⟨a,ha⟩ := (orbB_iff hn).1 ((cosR_mem hn).1 hx)
 constructor
 · rintro ⟨y,hy,i,hi,e⟩
   obtain ⟨b,hb⟩ := (orbB_iff hn).1 ((cosR_mem hn).1 hy)
   obtain ⟨c,hc⟩ := hO.sym hk hb
   exact ⟨i,hi,c + a,by rw [e, ← orb_orb,hc,ha]⟩
 · rintro ⟨i,hi,j,e⟩
   obtain ⟨c,hc⟩ := hO.sym (hz i hi) e
   exact ⟨z i,(cosR_mem hn).2 ((orbB_iff hn).2 ⟨a + c,by rw [← orb_orb,ha,hc]⟩),i,hi,rfl⟩
def zrL (q n : Nat) (z : Nat → Nat) (m : Nat) : List Nat := (List.range n).filter (zrB q n z m)
theorem rsn_zrL {q n m : Nat} {z : Nat → Nat} {L : List Nat} (hn : 0 < n) (h : TgL q n z m L) : rsn n L = zrL q n z m := by
 unfold rsn zrL
 refine List.filter_congr (fun x _ => ?_)
 rw [Bool.eq_iff_iff,List.contains_iff_mem,h.mem x,zrB_iff hn]
theorem meB_take {z : Nat → Nat} {m t : Nat} {c : List Nat} (ht : t < c.length) : meB z m (c.take (t + 1)) = (meB z m (c.take t) || decide (((c.getD t 0 : Nat) : Int) ∈ zl m fun i => ((z i : Nat) : Int))) := by
 unfold meB
 rw [List.take_add_one,List.getElem?_eq_getElem ht,List.any_append,List.getD_eq_getElem?_getD,List.getElem?_eq_getElem ht]
 simp
theorem take_cont {c : List Nat} {t x : Nat} (ht : t < c.length) : (c.take (t + 1)).contains x = ((c.take t).contains x || c.getD t 0 == x) := by
 rw [Bool.eq_iff_iff,Bool.or_eq_true,List.contains_iff_mem,List.contains_iff_mem,List.take_add_one,List.getElem?_eq_getElem ht,List.mem_append,List.getD_eq_getElem?_getD,List.getElem?_eq_getElem ht,beq_iff_eq]
 simp
 exact ⟨fun h => h.imp id Eq.symm,fun h => h.imp id Eq.symm⟩
end Go.Proofs.YtppggchhkckobaaGreat
namespace Go.Proofs.YtppggchhkckobaaGreat
open Go.RowKit Go.Sort
theorem cy_slI {ao : Option Addr} {n cap : Nat} {z : Nat → Int} {w : World} (h : SlZ ao n z w) (hn : n ≤ 1000000) : SliceI (.slice ao n cap) (zl n z) w := by
 by_cases h0 : n = 0
 · subst h0
   exact Or.inl ⟨rfl,ao,cap,rfl⟩
 · obtain ⟨b,off,rfl,_⟩ := h 0 (by omega)
   refine Or.inr ⟨fun e => ?_,by rw [zl_len]; exact hn,b,off,cap,by rw [zl_len],fun j hj => ?_⟩
   · have := congrArg List.length e
     rw [zl_len] at this
     exact h0 this
   · rw [zl_len] at hj
     obtain ⟨b',off',e,hc⟩ := h j hj
     cases e
     rw [zl_getD n z j hj]; exact hc
theorem NLs.slc {base : Nat} {v : Value} {Ls : List (List Nat)} {w : World} (h : NLs base v Ls w) : ∃ lo lc,v = .slice lo Ls.length lc := by
 obtain ⟨l,h1,h2,_⟩ := h
 obtain ⟨ao,cap,e,_⟩ := h1.open
 rw [h2] at e
 exact ⟨ao,cap,e⟩
theorem NLs.item {base k lc j : Nat} {lo : Option Addr} {Ls : List (List Nat)} {w : World} (h : NLs base (.slice lo k lc) Ls w) (hj : j < Ls.length) :
   ∃ g so sc,lo = some ⟨g,0,none⟩ ∧ w.cell? ⟨g,j,none⟩ = some (.slice so (Ls.getD j []).length sc) ∧ SlZ so (Ls.getD j []).length (fun i => (((Ls.getD j []).getD i 0 : Nat) : Int)) w ∧ g < w.heap.size ∧ LtB so w.heap.size := by
 obtain ⟨l,h1,h2,h3⟩ := h
 obtain ⟨ao,cap,e,_,hlb,_,hc⟩ := h1.open
 have e : Value.slice lo k lc = Value.slice ao l.length cap := e
 cases e
 have hu : l[j]? = some (l[j]'(by omega)) := List.getElem?_eq_getElem (by omega)
 obtain ⟨g,hg,c1,_⟩ := hc j _ hu
 have ho := h3 j _ (Ls[j]'hj) hu (List.getElem?_eq_getElem hj)
 have hd : Ls.getD j [] = Ls[j]'hj := by rw [List.getD_eq_getElem?_getD,List.getElem?_eq_getElem hj]; rfl
 obtain ⟨so,sc,hv,hA⟩ := ho.argOf (n := (Ls.getD j []).length) (by unfold nzl; rw [List.length_map,hd])
 refine ⟨g,so,sc,hg,by rw [c1,hv],fun i hi => ?_,hlb _ hg,hA.lt⟩
 obtain ⟨b,off,e,c⟩ := hA.sl i hi
 refine ⟨b,off,e,c.trans ?_⟩
 show some (Value.int .i64 ((nzl (Ls[j]'hj)).getD i 0)) = some (Value.int .i64 (((Ls.getD j []).getD i 0 : Nat) : Int))
 rw [hd] at hi ⊢
 unfold nzl
 rw [List.getD_eq_getElem?_getD,List.getD_eq_getElem?_getD,List.getElem?_map,List.getElem?_eq_getElem hi]
 rfl
set_option maxHeartbeats 4000000 in
set_option maxRecDepth 100000 in
theorem rzer_e3 {q n : Int} {zo : Option Addr} {m zc : Nat} {z : Nat → Int} {w : World} {P : Value → World → Prop} (hm : m ≤ 64) (hz : SlZ zo m z w) (hzl : LtB zo w.heap.size) (hout : anyB (fun j => cout n (z j)) m = true)
   (hC : Calls Tryz.prog 8 #[.int .i64 q, .int .i64 n] w fun x w' => ∃ v,x = .returned (.tuple #[v, .int .i64 0]) ∧ P v w' ∧ Below w.heap.size w w') :
   Calls Tryz.prog 43 #[.int .i64 q, .int .i64 n, .slice zo m zc] w fun x w' => x = .returned (.tuple #[.slice none 0 0, .int .i64 10]) ∧ Below w.heap.size w w' := by
 have HC : Hid (Calls Tryz.prog 8 #[.int .i64 q, .int .i64 n] w fun x w' => ∃ v,x = .returned (.tuple #[v, .int .i64 0]) ∧ P v w' ∧ Below w.heap.size w w') := hC
 have HZ : Hid ((SlZ zo m z w ∧ LtB zo w.heap.size) ∧ anyB (fun j => cout n (z j)) m = true) := ⟨⟨hz,hzl⟩,hout⟩
 clear hC hz hzl hout
 have h1 : ¬ (m : Int) > 64 := by omega
 have h2 : ¬ (64 : Int) < (m : Int) := by omega
 go_enter Tryz.func43,Tryz.ntmps43
 go_wp2_with fail
 refine HC.out.mono ?_
 rintro x w1 ⟨v,rfl,_,hb⟩
 have HB : Hid (Below w.heap.size w w1) := hb
 clear hb
 go_wp2
 go_loopw [10] (fun vi wr => ∃ r : Nat,r ≤ m ∧ vi = .int .i64 (r : Nat) ∧ wr = w1 ∧ Hid (∀ j,j < r → cout n (z j) = false)) (fun vi _ => m - (intOf vi).toNat)
 case atStart => exact ⟨0,by omega,rfl,rfl,fun j hj => absurd hj (by omega)⟩
 case round =>
   obtain ⟨r,hr,rfl,hwr,HI⟩ := hrel
   have hwr := hwr.symm
   subst hwr
   by_cases hlt : r < m
   · have hib : (r : Int) < (m : Int) := by omega
     have hib0 : (0 : Int) ≤ (r : Int) := by omega
     obtain ⟨bx,ox,hxo,cx0⟩ := HZ.out.1.1 r hlt
     have lx := HZ.out.1.2 _ hxo
     have cx1 : w1.cell? ⟨bx,ox + r,none⟩ = some (.int .i64 (z r)) := (HB.out.cell (p := ⟨bx,ox + r,none⟩) lx).trans cx0
     obtain ⟨y,hy⟩ : ∃ y,y = z r := ⟨_,rfl⟩
     rw [← hy] at cx1
     subst hxo
     clear cx0 lx
     by_cases c1 : y < 0
     · go_wp2
       go_ret2
       exact ⟨rfl,HB.out⟩
     · by_cases c2 : n ≤ y
       · have c3 : y ≥ n := c2
         go_wp2
         go_ret2
         exact ⟨rfl,HB.out⟩
       · have c3 : ¬ y ≥ n := c2
         have HN : Hid (∀ j,j < r + 1 → cout n (z j) = false) := fun j hj => by
           by_cases e : j = r
           · rw [e, ← hy]
             unfold cout
             rw [decide_eq_false c1,decide_eq_false c2]; rfl
           · exact HI.out j (by omega)
         clear hy
         go_wp2
         go_roundw
         case rel => exact ⟨r + 1,by omega,by go_num,by first | rfl | trivial,HN.out⟩
         case measure => simp [intOf]; omega
   · exfalso
     have hre : r = m := by omega
     have h3 := HZ.out.2
     rw [anyB_no m (fun j hj => HI.out j (by omega))] at h3
     cases h3
set_option maxHeartbeats 16000000 in
set_option maxRecDepth 100000 in
theorem rzer_ok {q n m zc : Nat} {zo : Option Addr} {z : Nat → Nat} {w : World} (hO : Ord q n) (hn1 : 1 ≤ n) (hn : n ≤ 64) (hm : m ≤ 64) (hz : SlZ zo m (fun i => ((z i : Nat) : Int)) w) (hzl : LtB zo w.heap.size) (hzn : ∀ i, i < m → z i < n)
   (hC : Calls Tryz.prog 8 #[.int .i64 (q : Nat), .int .i64 (n : Nat)] w fun x w' => ∃ v,x = .returned (.tuple #[v, .int .i64 0]) ∧ NLs w.heap.size v (cosL q n n) w' ∧ Below w.heap.size w w') :
   Calls Tryz.prog 43 #[.int .i64 (q : Nat), .int .i64 (n : Nat), .slice zo m zc] w fun x w' => ∃ v,x = .returned (.tuple #[v, .int .i64 0]) ∧ OwnI w.heap.size v (nzl (zrL q n z m)) w' ∧ Below w.heap.size w w' := by
 have HC : Hid (Calls Tryz.prog 8 #[.int .i64 (q : Nat), .int .i64 (n : Nat)] w fun x w' => ∃ v,x = .returned (.tuple #[v, .int .i64 0]) ∧ NLs w.heap.size v (cosL q n n) w' ∧ Below w.heap.size w w') := hC
 have HZ : Hid ((SlZ zo m (fun i => ((z i : Nat) : Int)) w ∧ LtB zo w.heap.size) ∧ (∀ i,i < m → z i < n) ∧ Ord q n) := ⟨⟨hz,hzl⟩,hzn,hO⟩
 clear hC hz hzl hzn hO
 have h1 : ¬ (m : Int) > 64 := by omega
 have h2 : ¬ (64 : Int) < (m : Int) := by omega
 go_enter Tryz.func43,Tryz.ntmps43
 go_wp2_with fail
 refine HC.out.mono ?_
 rintro x w1 ⟨v,rfl,hv,hb⟩
 clear HC
 obtain ⟨lo,lc,hvs⟩ := hv.slc
 subst hvs
 obtain ⟨Cs,hCs⟩ : ∃ Cs,Cs = cosL q n n := ⟨_,rfl⟩
 rw [← hCs] at hv
 rw [← hCs]
 obtain ⟨c,hc⟩ : ∃ c,c = Cs.length := ⟨_,rfl⟩
 rw [← hc] at hv
 rw [← hc]
 have H1 : Hid (NLs w.heap.size (.slice lo c lc) Cs w1 ∧ Below w.heap.size w w1 ∧ Cs = cosL q n n ∧ c = Cs.length) := ⟨hv,hb,hCs,hc⟩
 have hc64 : c ≤ 64 := by
   have := List.length_filter_le (fun j => !inB q n j j) (List.range n)
   rw [hc,hCs]
   unfold cosL
   rw [List.length_map]
   simp at this
   omega
 clear hv hb hCs hc
 go_wp2
 go_loopw [10] (fun vi wr => ∃ r : Nat,r ≤ m ∧ vi = .int .i64 (r : Nat) ∧ wr = w1) (fun vi _ => m - (intOf vi).toNat)
 case atStart => exact ⟨0,by omega,rfl,rfl⟩
 case round =>
   obtain ⟨r,hr,rfl,hwr⟩ := hrel
   have hwr := hwr.symm
   subst hwr
   by_cases hlt : r < m
   · have hib : (r : Int) < (m : Int) := by omega
     have hib0 : (0 : Int) ≤ (r : Int) := by omega
     obtain ⟨bx,ox,hxo,cx0⟩ := HZ.out.1.1 r hlt
     have lx := HZ.out.1.2 _ hxo
     have cx1 : w1.cell? ⟨bx,ox + r,none⟩ = some (.int .i64 ((z r : Nat) : Int)) := (H1.out.2.1.cell (p := ⟨bx,ox + r,none⟩) lx).trans cx0
     have hyn := HZ.out.2.1 r hlt
     obtain ⟨y,hy⟩ : ∃ y,y = z r := ⟨_,rfl⟩
     rw [← hy] at cx1 hyn
     subst hxo
     have c1 : ¬ (y : Int) < 0 := by omega
     have c2 : ¬ (n : Int) ≤ (y : Int) := by omega
     have c3 : ¬ (y : Int) ≥ (n : Int) := c2
     clear cx0 lx hy
     go_wp2
     go_roundw
     case rel => exact ⟨r + 1,by omega,by go_num,by first | rfl | trivial⟩
     case measure => simp [intOf]; omega
   · have hib : ¬ (r : Int) < (m : Int) := by omega
     clear hlt hr
     go_wp2_with (first | (at_make; refine make_bool rfl _ _ rfl _ n rfl rfl rfl (by omega) ?_; intro w3 hrow3 hgrow3))
     clear hib
     obtain ⟨gi,hgi⟩ : ∃ gi,gi = w1.heap.size := ⟨_,rfl⟩
     have H3 : Hid (RowF gi n 4 (fun x => .bool (inLs (Cs.take 0) x && zrB q n z m x)) w3 ∧ Below gi w1 w3 ∧ gi = w1.heap.size) := by
       rw [hgi]
       exact ⟨hrow3,below_grown hgrow3 (Nat.le_refl _) (fun k hk => by simp at hk),rfl⟩
     rw [← hgi]
     clear hrow3 hgrow3 hgi
     go_loopw [12] (fun vi wr => ∃ i : Nat,i ≤ c ∧ vi = .int .i64 (i : Nat) ∧ Hid (RowF gi n 4 (fun x => .bool (inLs (Cs.take i) x && zrB q n z m x)) wr ∧ Below gi w1 wr)) (fun vi _ => c - (intOf vi).toNat)
     case atStart => exact ⟨0,by omega,rfl,H3.out.1,H3.out.2.1⟩
     case round =>
       obtain ⟨i,hi,rfl,HI⟩ := hrel
       rename World => wr
       by_cases hlt : i < c
       · have hib : (i : Int) < (c : Int) := by omega
         have hib0 : (0 : Int) ≤ (i : Int) := by omega
         obtain ⟨C,hC⟩ : ∃ C,C = Cs.getD i [] := ⟨_,rfl⟩
         obtain ⟨N,hN⟩ : ∃ N,N = C.length := ⟨_,rfl⟩
         have hCm : C ∈ Cs := by
           rw [hC,List.getD_eq_getElem?_getD,List.getElem?_eq_getElem (by rw [← H1.out.2.2.2]; exact hlt)]
           exact List.getElem_mem _
         have HCm : Hid (C = Cs.getD i [] ∧ N = C.length ∧ (∃ j,j < n ∧ C = cosR q n j) ∧ N ≤ 64 ∧ ∀ t,t < N → C.getD t 0 < n) := by
           obtain ⟨j,hj,e⟩ := cosL_is (by rw [← H1.out.2.2.1]; exact hCm)
           refine ⟨hC,hN,⟨j,hj,e⟩,by rw [hN,e]; exact Nat.le_trans cosR_len hn,fun t ht => ?_⟩
           have hm : C.getD t 0 ∈ C := by
             rw [List.getD_eq_getElem?_getD,List.getElem?_eq_getElem (by rw [← hN]; exact ht)]
             exact List.getElem_mem _
           rw [e] at hm ⊢
           exact List.mem_range.1 (List.mem_filter.1 hm).1
         obtain ⟨gl,so,sc,hlo,cl0,sl0,lg0,lb0⟩ := H1.out.1.item (j := i) (by rw [← H1.out.2.2.2]; exact hlt)
         rw [← hC, ← hN] at cl0 sl0
         have HIt : Hid (w1.cell? ⟨gl,i,none⟩ = some (.slice so N sc) ∧ SlZ so N (fun t => ((C.getD t 0 : Nat) : Int)) w1 ∧ gl < gi ∧ LtB so gi) := by
           have hgi := H3.out.2.2
           rw [hgi]
           exact ⟨cl0,sl0,lg0,lb0⟩
         have hN64 : N ≤ 64 := HCm.out.2.2.2.1
         clear hC hN hCm cl0 sl0 lg0 lb0
         subst hlo
         go_wp2
         go_loopw [13,14] (fun va vk wx => ∃ t : Nat,t ≤ N ∧ va = .bool (meB z m (C.take t)) ∧ vk = .int .i64 (t : Nat) ∧ Hid (RowF gi n 4 (fun x => .bool (inLs (Cs.take i) x && zrB q n z m x)) wx ∧ Below gi w1 wx)) (fun _ vk _ => N - (intOf vk).toNat)
         case atStart => exact ⟨0,by omega,rfl,rfl,HI.out⟩
         case round =>
           obtain ⟨t,ht,rfl,rfl,HJ⟩ := hrel
           rename World => wx
           obtain ⟨A,hA⟩ : ∃ A,A = meB z m (C.take t) := ⟨_,rfl⟩
           rw [← hA]
           have HA : Hid (A = meB z m (C.take t)) := hA
           clear hA
           have cl : wx.cell? ⟨gl,i,none⟩ = some (.slice so N sc) := (HJ.out.2.cell (p := ⟨gl,i,none⟩) HIt.out.2.2.1).trans HIt.out.1
           by_cases htn : t < N
           · have htb : (t : Int) < (N : Int) := by omega
             have htb0 : (0 : Int) ≤ (t : Int) := by omega
             obtain ⟨bx,ox,hxo,cx0⟩ := HIt.out.2.1 t htn
             have lx := HIt.out.2.2.2 _ hxo
             obtain ⟨x,hx⟩ : ∃ x,x = C.getD t 0 := ⟨_,rfl⟩
             have cx : wx.cell? ⟨bx,ox + t,none⟩ = some (.int .i64 (x : Nat)) := by rw [hx]; exact (HJ.out.2.cell (p := ⟨bx,ox + t,none⟩) lx).trans cx0
             have HTk : Hid (meB z m (C.take (t + 1)) = (A || decide (((x : Nat) : Int) ∈ zl m fun i => ((z i : Nat) : Int)))) := by
               show _ = _
               rw [meB_take (by rw [← HCm.out.2.1]; exact htn), ← HA.out,hx]
             subst hxo
             clear hx lx cx0
             cases A with
             | true =>
               clear HA
               go_wp2
               go_roundw
               case rel => exact ⟨t + 1,by omega,by rw [HTk.out,Bool.true_or],by go_num,HJ.out⟩
               case measure => simp [intOf]; omega
             | false =>
               clear HA
               obtain ⟨R,hR⟩ : ∃ R,R = decide (((x : Nat) : Int) ∈ zl m fun i => ((z i : Nat) : Int)) := ⟨_,rfl⟩
               have HIn : Hid (Calls Tryz.prog 53 #[.int .i64 (x : Nat), .slice zo m zc] wx fun e w' => e = .returned (.bool R) ∧ ∃ n,w' = wx.drewN n) := by
                 rw [hR]
                 have hgw : w.heap.size ≤ gi := by rw [H3.out.2.2]; exact H1.out.2.1.size
                 refine in_any (x : Int) (cy_slI (fun i hi => ?_) (by omega))
                 obtain ⟨b,off,e,k⟩ := HZ.out.1.1 i hi
                 have hlb : b < w.heap.size := HZ.out.1.2 _ e
                 exact ⟨b,off,e,(HJ.out.2.cell (p := ⟨b,off + i,none⟩) (show b < gi by omega)).trans ((H1.out.2.1.cell (p := ⟨b,off + i,none⟩) hlb).trans k)⟩
               have HR : Hid (meB z m (C.take (t + 1)) = R) := by show _ = _; rw [HTk.out,Bool.false_or,hR]
               clear hR HTk
               go_wp2_with fail
               refine HIn.out.mono ?_
               rintro e w4 ⟨rfl,d,hw4⟩
               have H4 : Hid (RowF gi n 4 (fun x => .bool (inLs (Cs.take i) x && zrB q n z m x)) w4 ∧ Below gi w1 w4) := by
                 rw [hw4]
                 exact ⟨HJ.out.1.drewN d,below_drewN2 HJ.out.2 d⟩
               clear hw4 HIn
               go_wp2
               go_roundw
               case rel => exact ⟨t + 1,by omega,by rw [HR.out],by go_num,H4.out⟩
               case measure => simp [intOf]; omega
           · have htb : ¬ (t : Int) < (N : Int) := by omega
             have hte : t = N := by omega
             have HAC : Hid (A = meB z m C) := by
               show _ = _
               rw [HA.out,hte,HCm.out.2.1,List.take_length]
             clear HA hte ht
             go_wp2
             clear htb cl
             go_loopw [15] (fun vk wy => ∃ t : Nat,t ≤ N ∧ vk = .int .i64 (t : Nat) ∧ Hid (RowF gi n 4 (fun x => .bool (if (C.take t).contains x then A else (inLs (Cs.take i) x && zrB q n z m x))) wy ∧ Below gi w1 wy)) (fun vk _ => N - (intOf vk).toNat)
             case atStart => exact ⟨0,by omega,rfl,HJ.out⟩
             case round =>
               obtain ⟨t2,ht,rfl,HK⟩ := hrel
               rename World => wy
               have cl : wy.cell? ⟨gl,i,none⟩ = some (.slice so N sc) := (HK.out.2.cell (p := ⟨gl,i,none⟩) HIt.out.2.2.1).trans HIt.out.1
               by_cases htn : t2 < N
               · have htb : (t2 : Int) < (N : Int) := by omega
                 have htb0 : (0 : Int) ≤ (t2 : Int) := by omega
                 obtain ⟨bx,ox,hxo,cx0⟩ := HIt.out.2.1 t2 htn
                 have lx := HIt.out.2.2.2 _ hxo
                 have hxn := HCm.out.2.2.2.2 t2 htn
                 obtain ⟨x,hx⟩ : ∃ x,x = C.getD t2 0 := ⟨_,rfl⟩
                 rw [← hx] at hxn
                 have hxb : (x : Int) < (n : Int) := by omega
                 have hxb0 : (0 : Int) ≤ (x : Int) := by omega
                 have cx : wy.cell? ⟨bx,ox + t2,none⟩ = some (.int .i64 (x : Nat)) := by rw [hx]; exact (HK.out.2.cell (p := ⟨bx,ox + t2,none⟩) lx).trans cx0
                 have r1 := HK.out.1.store x (.bool A)
                 obtain ⟨B0,hB0⟩ : ∃ B0,B0 = if (C.take t2).contains x then A else (inLs (Cs.take i) x && zrB q n z m x) := ⟨_,rfl⟩
                 have c0 := HK.out.1.cell x hxn
                 rw [← hB0] at c0
                 have f0 := HK.out.1.free x
                 obtain ⟨wz,hwz⟩ : ∃ wz,wz = wy.setCell ⟨gi,x,none⟩ (.bool A) := ⟨_,rfl⟩
                 have HN : Hid (RowF gi n 4 (fun x => .bool (if (C.take (t2 + 1)).contains x then A else (inLs (Cs.take i) x && zrB q n z m x))) wz ∧ Below gi w1 wz) := by
                   rw [hwz]
                   refine ⟨r1.congr (fun o _ => ?_),HK.out.2.setCell (Nat.le_refl _) _⟩
                   unfold upd
                   rw [take_cont (by rw [← HCm.out.2.1]; exact htn), ← hx]
                   by_cases e : o = x
                   · rw [if_pos e,e,beq_self_eq_true,Bool.or_true,if_pos rfl]
                   · rw [if_neg e,show (x == o) = false by rw [beq_eq_false_iff_ne]; exact fun h => e h.symm,Bool.or_false]
                 subst hxo
                 clear hx lx cx0 r1 hB0
                 go_wp2
                 rw [← hwz]
                 clear hwz c0 f0 cx cl
                 go_roundw
                 case rel => exact ⟨t2 + 1,by omega,by go_num,HN.out⟩
                 case measure => simp [intOf]; omega
               · have htb : ¬ (t2 : Int) < (N : Int) := by omega
                 have HN : Hid (RowF gi n 4 (fun x => .bool (inLs (Cs.take (i + 1)) x && zrB q n z m x)) wy ∧ Below gi w1 wy) := by
                   refine ⟨HK.out.1.congr (fun o ho => ?_),HK.out.2⟩
                   have hte : t2 = N := by omega
                   have e1 : Cs.take (i + 1) = Cs.take i ++ [C] := by
                     rw [List.take_add_one,HCm.out.1,List.getD_eq_getElem?_getD,List.getElem?_eq_getElem (by rw [← H1.out.2.2.2]; exact hlt)]
                     rfl
                   rw [hte,HCm.out.2.1,List.take_length,e1,inLs_app]
                   cases hcc : C.contains o with
                   | true =>
                     rw [if_pos rfl,Bool.or_true,Bool.true_and,HAC.out]
                     obtain ⟨j,hj,e⟩ := HCm.out.2.2.1
                     rw [e] at hcc ⊢
                     rw [meB_cos (by omega) HZ.out.2.2 hj HZ.out.2.1 (List.contains_iff_mem.1 hcc)]
                   | false => rw [if_neg (by intro c; cases c),Bool.or_false]
                 go_wp2
                 go_roundw
                 case rel => exact ⟨i + 1,by omega,by go_num,HN.out⟩
                 case measure => simp [intOf]; omega
       · have hib : ¬ (i : Int) < (c : Int) := by omega
         have HK : Hid (RowF gi n 4 (fun x => .bool (zrB q n z m x)) wr ∧ Below w.heap.size w wr ∧ gi < wr.heap.size ∧ w.heap.size ≤ wr.heap.size) := by
           have hgi := H3.out.2.2
           have h3 := HI.out.2
           rw [hgi] at h3
           have h4 := bel_up' H1.out.2.1 h3
           refine ⟨HI.out.1.congr (fun o ho => ?_),h4,HI.out.1.lt,h4.size⟩
           have hie : i = c := by omega
           rw [hie,H1.out.2.2.2,List.take_length,H1.out.2.2.1,inLs_all ho,Bool.true_and]
         have hgx : gi < wr.heap.size := HK.out.2.2.1
         have hwz0 : w.heap.size ≤ wr.heap.size := HK.out.2.2.2
         clear HI
         go_wp2
         clear hib
         go_loopw [16,17] (fun vl vt wz => ∃ t : Nat,t ≤ n ∧ vt = .int .i64 (t : Nat) ∧ Hid (OwnI wr.heap.size vl (nzl ((List.range t).filter (zrB q n z m))) wz ∧ Below wr.heap.size wr wz)) (fun _ vt _ => n - (intOf vt).toNat)
         case atStart => exact ⟨0,by omega,rfl,OwnI.nil _ _,Below.refl _ _⟩
         case round =>
           obtain ⟨t,ht,rfl,HL⟩ := hrel
           rename World => wz
           have hszz := HL.out.2.size
           have hfl : ((List.range t).filter (zrB q n z m)).length ≤ t := by
             have := List.length_filter_le (zrB q n z m) (List.range t)
             simpa using this
           by_cases htn : t < n
           · have htb : (t : Int) < (n : Int) := by omega
             have htb0 : (0 : Int) ≤ (t : Int) := by omega
             cases hob : zrB q n z m t with
             | true =>
               have c0 : wz.cell? ⟨gi,t,none⟩ = some (.bool true) := by rw [(HK.out.1.below HL.out.2 hgx).cell t htn,hob]
               have HO : Hid (nzl ((List.range (t + 1)).filter (zrB q n z m)) = nzl ((List.range t).filter (zrB q n z m)) ++ [(t : Int)]) := by
                 show _ = _
                 rw [List.range_succ,List.filter_append]
                 unfold nzl
                 simp [hob]
               clear hob
               go_wp2_with (first
                 | (at_builtin; refine append_int rfl _ _ rfl wr.heap.size _ (nzl ((List.range t).filter (zrB q n z m))) rfl (HL.out.1.alloc _) ⟨_,0,none⟩ 1 (t : Nat) rfl (by simp) (by unfold nzl; rw [List.length_map]; omega) (by simp; omega) ?_; intro v2 w5 hown5 hgrow5))
               have HN : Hid (OwnI wr.heap.size v2 (nzl ((List.range (t + 1)).filter (zrB q n z m))) w5 ∧ Below wr.heap.size wr w5) := by
                 refine ⟨?_,(HL.out.2.alloc hszz _).grown hgrow5 (by simp; omega) (fun k hk => (HL.out.1.lt k hk).1)⟩
                 rw [HO.out]; exact hown5
               clear hown5 hgrow5 c0
               go_roundw
               case rel => exact ⟨t + 1,by omega,by go_num,HN.out⟩
               case measure => simp [intOf]; omega
             | false =>
               have c0 : wz.cell? ⟨gi,t,none⟩ = some (.bool false) := by rw [(HK.out.1.below HL.out.2 hgx).cell t htn,hob]
               have HN : Hid (OwnI wr.heap.size u16 (nzl ((List.range (t + 1)).filter (zrB q n z m))) wz ∧ Below wr.heap.size wr wz) := by
                 refine ⟨?_,HL.out.2⟩
                 rw [List.range_succ,List.filter_append]
                 simp [hob]
                 exact HL.out.1
               clear hob
               go_wp2
               go_roundw
               case rel => exact ⟨t + 1,by omega,by go_num,HN.out⟩
               case measure => simp [intOf]; omega
           · have htb : ¬ (t : Int) < (n : Int) := by omega
             have hte : t = n := by omega
             subst hte
             have HN : Hid (OwnI w.heap.size u16 (nzl (zrL q t z m)) wz ∧ Below w.heap.size w wz) := ⟨HL.out.1.mono hwz0,bel_up' HK.out.2.1 HL.out.2⟩
             go_wp2
             go_ret2
             exact ⟨_,rfl,HN.out⟩
end Go.Proofs.YtppggchhkckobaaGreat
