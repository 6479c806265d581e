/- Texts of ours, one behind the other: LS3 KP12 KP13 KP14 KP15. -/
import Derived.Shelf.Strings.Builder1
import Derived.Shelf.Strings.OnBuilder
import Derived.Shelf.Strconv.Itoa3
import Derived.Test.YtinmkgohganllaaGreatDoorProg
import Derived.Test.YtinmkgohganllaaGreatDoorZKP6
import Derived.Test.YtinmkgohganllaaGreatDoorZD1
import Derived.Test.YtinmkgohganllaaGreatDoorZI5
import Derived.Test.YtinmkgohganllaaGreatDoorZI12
import Derived.Test.YtinmkgohganllaaGreatDoorZX17
import Derived.Test.YtinmkgohganllaaGreatDoorZI1
import Derived.Test.YtinmkgohganllaaGreatDoorZL11
import Derived.Test.YtinmkgohganllaaGreatDoorZI34
namespace Go.Proofs.YtinmkgohganllaaGreatDoor
open Go.Shelf
def lay156_ren : Go.Shelf.Ren := ⟨fun | 156 => 108 | 165 => 130 | 166 => 74 | 169 => 76 | 240 => 106 | 241 => 147 | 276 => 128 | 277 => 159 | n => n,fun | 31 => 107 | 9 => 9 | 3 => 3 | 4 => 4 | 0 => 0 | 20 => 20 | 72 => 100 | 76 => 103 | 70 => 97 | 37 => 98 | 75 => 102 | 127 => 132 | 164 => 145 | 5 => 5 | 80 => 106 | n => n,fun | n => n⟩
theorem lay156 : Go.Proofs.Lays.n156 Tryz.prog lay156_ren := {
 mixed := by kernel_rfl
 f156 := Tryz.func108.trans (congrArg some (by kernel_rfl))
 f165 := Tryz.func130.trans (congrArg some (by kernel_rfl))
 f166 := Tryz.func74.trans (congrArg some (by kernel_rfl))
 f169 := Tryz.func76.trans (congrArg some (by kernel_rfl))
 f240 := Tryz.func106.trans (congrArg some (by kernel_rfl))
 f241 := Tryz.func147.trans (congrArg some (by kernel_rfl))
 f276 := Tryz.func128.trans (congrArg some (by kernel_rfl))
 f277 := Tryz.func159.trans (congrArg some (by kernel_rfl))
 t0 := Tryz.underlying0
 a0 := Tryz.isAgg0
 z0 := Tryz.sizeOf0
 v0 := Tryz.zeroValue0
 t3 := Tryz.underlying3
 a3 := Tryz.isAgg3
 z3 := Tryz.sizeOf3
 v3 := Tryz.zeroValue3
 t4 := Tryz.underlying4
 a4 := Tryz.isAgg4
 z4 := Tryz.sizeOf4
 v4 := Tryz.zeroValue4
 t9 := Tryz.underlying9
 a9 := Tryz.isAgg9
 z9 := Tryz.sizeOf9
 v9 := Tryz.zeroValue9
 t20 := Tryz.underlying20
 a20 := Tryz.isAgg20
 z20 := Tryz.sizeOf20
 v20 := Tryz.zeroValue20
 t31 := Tryz.underlying107
 a31 := Tryz.isAgg107
 z31 := Tryz.sizeOf107
 v31 := Tryz.zeroValue107
 t37 := Tryz.underlying98
 a37 := Tryz.isAgg98
 z37 := Tryz.sizeOf98
 v37 := Tryz.zeroValue98
 t70 := Tryz.underlying97
 a70 := Tryz.isAgg97
 z70 := Tryz.sizeOf97
 v70 := Tryz.zeroValue97
 t72 := Tryz.underlying100
 a72 := Tryz.isAgg100
 z72 := Tryz.sizeOf100
 v72 := Tryz.zeroValue100
 t75 := Tryz.underlying102
 a75 := Tryz.isAgg102
 z75 := Tryz.sizeOf102
 v75 := Tryz.zeroValue102
 t76 := Tryz.underlying103
 a76 := Tryz.isAgg103
 z76 := Tryz.sizeOf103
 v76 := Tryz.zeroValue103
 t127 := Tryz.underlying132
 a127 := Tryz.isAgg132
 z127 := Tryz.sizeOf132
 v127 := Tryz.zeroValue132
 t164 := Tryz.underlying145
 a164 := Tryz.isAgg145
 z164 := Tryz.sizeOf145
 v164 := Tryz.zeroValue145 }
theorem bex156 : Builder.Extra Tryz.prog lay156_ren := {
 sizeBuilder := by kernel_rfl
 liesBuilder := by kernel_rfl
 t5 := Tryz.underlying5
 a5 := Tryz.isAgg5
 z5 := Tryz.sizeOf5
 v5 := Tryz.zeroValue5
 infoByte := by kernel_rfl
 cellsByte := by kernel_rfl
 sizeByte := by kernel_rfl
 neB5 := by decide }
def lay171_ren : Go.Shelf.Ren := ⟨fun | 171 => 107 | 243 => 129 | 246 => 146 | 283 => 155 | 284 => 156 | 285 => 157 | 286 => 158 | 129 => 167 | 317 => 166 | 318 => 168 | 319 => 169 | 320 => 170 | 337 => 173 | 338 => 174 | n => n,fun | 3 => 3 | 9 => 9 | 2 => 2 | 4 => 4 | 171 => 163 | 0 => 0 | 53 => 164 | 37 => 98 | 5 => 5 | 173 => 167 | 212 => 172 | 51 => 173 | 20 => 20 | 213 => 174 | 46 => 170 | 232 => 183 | 233 => 184 | n => n,fun | 17 => 1 | 18 => 4 | 19 => 5 | n => n⟩
theorem lay171 : Go.Proofs.Lays.n171 Tryz.prog lay171_ren := {
 mixed := by kernel_rfl
 f129 := Tryz.func167.trans (congrArg some (by kernel_rfl))
 f171 := Tryz.func107.trans (congrArg some (by kernel_rfl))
 f243 := Tryz.func129.trans (congrArg some (by kernel_rfl))
 f246 := Tryz.func146.trans (congrArg some (by kernel_rfl))
 f283 := Tryz.func155.trans (congrArg some (by kernel_rfl))
 f284 := Tryz.func156.trans (congrArg some (by kernel_rfl))
 f285 := Tryz.func157.trans (congrArg some (by kernel_rfl))
 f286 := Tryz.func158.trans (congrArg some (by kernel_rfl))
 f317 := Tryz.func166.trans (congrArg some (by kernel_rfl))
 f318 := Tryz.func168.trans (congrArg some (by kernel_rfl))
 f319 := Tryz.func169.trans (congrArg some (by kernel_rfl))
 f320 := Tryz.func170.trans (congrArg some (by kernel_rfl))
 f337 := Tryz.func173.trans (congrArg some (by kernel_rfl))
 f338 := Tryz.func174.trans (congrArg some (by kernel_rfl))
 t0 := Tryz.underlying0
 a0 := Tryz.isAgg0
 z0 := Tryz.sizeOf0
 v0 := Tryz.zeroValue0
 t2 := Tryz.underlying2
 a2 := Tryz.isAgg2
 z2 := Tryz.sizeOf2
 v2 := Tryz.zeroValue2
 t3 := Tryz.underlying3
 a3 := Tryz.isAgg3
 z3 := Tryz.sizeOf3
 v3 := Tryz.zeroValue3
 t4 := Tryz.underlying4
 a4 := Tryz.isAgg4
 z4 := Tryz.sizeOf4
 v4 := Tryz.zeroValue4
 t5 := Tryz.underlying5
 a5 := Tryz.isAgg5
 z5 := Tryz.sizeOf5
 v5 := Tryz.zeroValue5
 t9 := Tryz.underlying9
 a9 := Tryz.isAgg9
 z9 := Tryz.sizeOf9
 v9 := Tryz.zeroValue9
 t20 := Tryz.underlying20
 a20 := Tryz.isAgg20
 z20 := Tryz.sizeOf20
 v20 := Tryz.zeroValue20
 t37 := Tryz.underlying98
 a37 := Tryz.isAgg98
 z37 := Tryz.sizeOf98
 v37 := Tryz.zeroValue98
 t46 := Tryz.underlying170
 a46 := Tryz.isAgg170
 z46 := Tryz.sizeOf170
 v46 := Tryz.zeroValue170
 t51 := Tryz.underlying173
 a51 := Tryz.isAgg173
 z51 := Tryz.sizeOf173
 v51 := Tryz.zeroValue173
 t53 := Tryz.underlying164
 a53 := Tryz.isAgg164
 z53 := Tryz.sizeOf164
 v53 := Tryz.zeroValue164
 t171 := Tryz.underlying163
 a171 := Tryz.isAgg163
 z171 := Tryz.sizeOf163
 v171 := Tryz.zeroValue163
 t173 := Tryz.underlying167
 a173 := Tryz.isAgg167
 z173 := Tryz.sizeOf167
 v173 := Tryz.zeroValue167
 t212 := Tryz.underlying172
 a212 := Tryz.isAgg172
 z212 := Tryz.sizeOf172
 v212 := Tryz.zeroValue172
 t213 := Tryz.underlying174
 a213 := Tryz.isAgg174
 z213 := Tryz.sizeOf174
 t232 := Tryz.underlying183
 a232 := Tryz.isAgg183
 z232 := Tryz.sizeOf183
 v232 := Tryz.zeroValue183
 t233 := Tryz.underlying184
 a233 := Tryz.isAgg184
 z233 := Tryz.sizeOf184
 v233 := Tryz.zeroValue184
 g17 := by kernel_rfl
 g18 := by kernel_rfl
 g19 := by kernel_rfl }
theorem joinS (bk o c : Nat) (xs : List ByteArray) (sep : ByteArray) (w : World) (hcells : ∀ (j : Nat) x,xs[j]? = some x → w.cell? ⟨bk,o + j,none⟩ = some (.string x)) (hbk : bk < w.heap.size) (hN : xs.length ≤ 140737488355328) (hcap : xs.length ≤ c) (hlen : (Lib.join (xs.map (·.data.toList)) sep.data.toList).length ≤ 140737488355328) :
   Calls Tryz.prog 108 #[.slice (some ⟨bk,o,none⟩) xs.length c, .string sep] w fun e w' => e = .returned (.string ⟨(Lib.join (xs.map (·.data.toList)) sep.data.toList).toArray⟩) ∧ RowKit.Below w.heap.size w w' := Any.strings_Join lay156 bex156 bk o c xs sep w hcells hbk hN hcap hlen
theorem itoaS (i : Nat) (hi : i < 100) (w : World) :
   Calls Tryz.prog 107 #[.int .i64 i] w fun e w' => e = .returned (.string ⟨(Lib.decDigits i).toArray⟩) ∧ w' = w := Any.strconv_Itoa_small lay171 i hi w
end Go.Proofs.YtinmkgohganllaaGreatDoor
namespace Go.Proofs.YtinmkgohganllaaGreatDoor
open Go.RowKit Go.Sort
theorem dec_dgd : ∀ i,i < 100 → Lib.decDigits i = dgd i := by
 intro i hi
 by_cases h : i < 10
 · unfold Lib.decDigits dgd
   simp [h]
 · unfold Lib.decDigits
   have h2 : i / 10 < 10 := by omega
   rw [dif_neg h]
   unfold Lib.decDigits dgd
   simp [h,h2]
theorem make_str {ops : Array Oper} {rest : List Oper} {o : Oper} {a : Act} {w : World} {Q : Exit → Act → World → Prop}
   (hg : o.guard = none) (l c : Operand) (hop : o.op = Op.makeSlice 107 l c) (C : Int) (n : Nat) (hl : a.eval l = .int .i64 C) (hc : a.eval c = .int .i64 C) (hC : C = (n : Int)) (hn : n ≤ 1000000)
   (hK : ∀ w',RowF w.heap.size n 9 (fun _ => .string ByteArray.empty) w' → w.grownBy w' none → wpList Tryz.prog ops Q rest (a.put o.dst (.slice (some ⟨w.heap.size,0,none⟩) n n)) w') :
   wpList Tryz.prog ops Q (o :: rest) a w := by
 obtain ⟨i0,hi,hz0,hz1,hz2⟩ := info_parts Tryz.infoStr
 refine wpList_make_full w hg l c 107 hop w.heap.size 9 i0 (.string ByteArray.empty) 1 Tryz.underlying107 hi hz0 hz1 .i64 .i64 C C n hl hc hC hC (by rw [hz2]; omega) (by unfold maxLen; omega) (Nat.le_refl _) ?_
 intro w' hown hgrow
 refine hK w' ?_ hgrow
 have e : (madeCells (Value.string ByteArray.empty).cells (n * 1)).toList = List.replicate n (.string ByteArray.empty) := by
   rw [Nat.mul_one]; exact toList_madeCells_one _ _
 rw [e] at hown
 rcases hown.2 with ⟨h1,_⟩ | ⟨g,cap,cur,hv,hg,hh,hle,hcm,hsz,htake⟩
 · cases h1
 · simp only [Value.slice.injEq,Option.some.injEq,Addr.mk.injEq,and_true,true_and] at hv
   obtain ⟨rfl,rfl⟩ := hv
   refine ⟨cur,hh,by omega,fun k hk => ?_⟩
   have h3 : (cur.toList.take (n * 1))[k]? = (List.replicate n (Value.string ByteArray.empty))[k]? := by rw [htake]
   rw [List.getElem?_take,if_pos (by omega),List.getElem?_replicate,if_pos hk,Array.getElem?_toList] at h3
   exact h3
theorem tlL_join : ∀ l : List Nat,Lib.join (l.map dgd) [32] = tlL l
 | [] => rfl
 | [v] => Lib.join_one _ _
 | v :: u :: l => by
   have ih := tlL_join (u :: l)
   show _ = dgd v ++ 32 :: tlL (u :: l)
   rw [← ih]
   unfold Lib.join
   simp [List.intercalate]
theorem itoa_at {x : Nat} {d : ByteArray} {w : World} (hx : x < 100) (hd : d = tob (dgd x)) :
   Calls Tryz.prog 107 #[.int .i64 (x : Nat)] w fun e w' => e = .returned (.string d) ∧ w' = w := by
 have := itoaS x hx w
 rw [dec_dgd x hx] at this
 rw [hd]; exact this
theorem join_at {g n : Nat} {l : List Nat} {f : Nat → Value} {y : ByteArray} {w : World} (hr : RowF g n 9 f w) (hl : l.length = n) (hf : ∀ j,j < n → f j = .string (tob (dgd (l.getD j 0)))) (hv : ∀ v ∈ l,v < 100) (hn : n ≤ 1000) (hy : y = tob (tlL l)) :
   Calls Tryz.prog 108 #[.slice (some ⟨g,0,none⟩) n n, .string ⟨#[32]⟩] w fun e w' => e = .returned (.string y) ∧ Below w.heap.size w w' := by
 have hxl : (l.map (fun v => tob (dgd v))).length = n := by rw [List.length_map]; exact hl
 have hj : (l.map (fun v => tob (dgd v))).map (·.data.toList) = l.map dgd := by
   rw [List.map_map]
   apply List.map_congr_left
   intro v _
   show (dgd v).toArray.toList = dgd v
   simp
 have h := joinS g 0 n (l.map (fun v => tob (dgd v))) ⟨#[32]⟩ w (fun j x hx => by
   rw [List.getElem?_map] at hx
   have hjl : j < l.length := by
     rcases Nat.lt_or_ge j l.length with h | h
     · exact h
     · rw [List.getElem?_eq_none h] at hx; cases hx
   rw [List.getElem?_eq_getElem hjl] at hx
   have hx : tob (dgd (l[j]'hjl)) = x := Option.some.inj hx
   rw [Nat.zero_add,hr.cell j (by omega),hf j (by omega), ← hx,List.getD_eq_getElem?_getD,List.getElem?_eq_getElem hjl]
   rfl) hr.lt (by omega) (by omega) (by
     rw [hj]
     show (Lib.join (l.map dgd) [32]).length ≤ _
     rw [tlL_join]
     have := tlL_len l hv
     omega)
 rw [hxl,hj] at h
 have e2 : (Lib.join (l.map dgd) (⟨#[32]⟩ : ByteArray).data.toList) = tlL l := tlL_join l
 rw [e2] at h
 rw [hy]; exact h
set_option maxHeartbeats 4000000 in
set_option maxRecDepth 100000 in
theorem line_any {ao : Option Addr} {n ca : Nat} {z : Nat → Int} {l : List Nat} {w : World} (hs : SlZ ao n z w) (hl : l.length = n) (hz : ∀ j,j < n → z j = ((l.getD j 0 : Nat) : Int)) (hv : ∀ v ∈ l,v < 100) (hn : n ≤ 1000) :
   Calls Tryz.prog 75 #[.slice ao n ca] w fun e w' => e = .returned (.string (tob (tlL l ++ [10]))) ∧ Below w.heap.size w w' := by
 have HA : Hid (SlZ ao n z w ∧ l.length = n ∧ (∀ j,j < n → z j = ((l.getD j 0 : Nat) : Int)) ∧ ∀ v ∈ l,v < 100) := ⟨hs,hl,hz,hv⟩
 clear hs hl hz hv
 obtain ⟨y,hy⟩ : ∃ y,y = tob (tlL l) := ⟨_,rfl⟩
 have hys : y.size ≤ 3000 := by
   rw [hy,tob_size]
   have := tlL_len l HA.out.2.2.2
   have := HA.out.2.1
   omega
 have HY0 : Hid (y = tob (tlL l)) := hy
 have hz0 : ¬ 9223372036854775807 < y.size + 1 := by omega
 have hz00 : ¬ (9223372036854775807 : Int) < (y.size : Int) + 1 := by omega
 clear hy
 go_enter Tryz.func75,Tryz.ntmps75
 go_wp2_with (at_make; refine make_str rfl _ _ rfl _ n rfl rfl (by first | rfl | omega) (by omega) ?_; intro w1 hrow1 hgrow1)
 obtain ⟨g,hg⟩ : ∃ g,g = w.heap.size := ⟨_,rfl⟩
 rw [← hg] at hrow1
 try rw [← hg]
 have H1 : Hid (RowF g n 9 (fun _ => .string ByteArray.empty) w1 ∧ Below w.heap.size w w1 ∧ g = w.heap.size) := ⟨hrow1,below_grown hgrow1 (Nat.le_refl _) (fun k hk => by cases hk),hg⟩
 clear hrow1 hgrow1 hg
 go_loopw [11] (fun vi wr => ∃ (t : Nat) (f : Nat → Value),t ≤ n ∧ vi = .int .i64 (t : Nat) ∧ Hid (RowF g n 9 f wr ∧ (∀ j,j < t → f j = .string (tob (dgd (l.getD j 0)))) ∧ Below w.heap.size w wr)) (fun vi _ => n - (intOf vi).toNat)
 case atStart => exact ⟨0,_,by omega,rfl,H1.out.1,fun j hj => absurd hj (by omega),H1.out.2.1⟩
 case round =>
   obtain ⟨t,f,ht,rfl,HI⟩ := hrel
   rename World => wr
   by_cases hlt : t < n
   · have hib : (t : Int) < (n : Int) := by omega
     have hib0 : (0 : Int) ≤ (t : Int) := by omega
     obtain ⟨b,o,hao,hc0⟩ := HA.out.1 t hlt
     have hcell := (HI.out.2.2.cell (p := ⟨b,o + t,none⟩) (cell_lt hc0)).trans hc0
     obtain ⟨x,hx⟩ : ∃ x,x = l.getD t 0 := ⟨_,rfl⟩
     rw [HA.out.2.2.1 t hlt, ← hx] at hcell
     have hx100 : x < 100 := by
       rw [hx,List.getD_eq_getElem?_getD,List.getElem?_eq_getElem (by rw [HA.out.2.1]; exact hlt)]
       exact HA.out.2.2.2 _ (List.getElem_mem _)
     obtain ⟨d,HD⟩ : ∃ d,Hid (d = tob (dgd x) ∧ x = l.getD t 0) := ⟨_,rfl,hx⟩
     have hfc := HI.out.1.cell t hlt
     have hff := HI.out.1.free t
     subst hao
     clear hc0 hx
     go_wp2_with (go_at_call 107; refine (itoa_at hx100 HD.out.1).mono ?_; rintro e w' ⟨rfl,hw⟩; have hw := hw.symm; subst hw)
     obtain ⟨ws,hws⟩ : ∃ ws,ws = wr.setCell ⟨g,t,none⟩ (.string d) := ⟨_,rfl⟩
     have HY : Hid (RowF g n 9 (upd f t (.string d)) ws ∧ (∀ j,j < t + 1 → upd f t (.string d) j = .string (tob (dgd (l.getD j 0)))) ∧ Below w.heap.size w ws) := by
       rw [hws]
       refine ⟨HI.out.1.store t _,fun j hj => ?_,HI.out.2.2.setCell (by show w.heap.size ≤ g; have := H1.out.2.2; omega) _⟩
       by_cases e : j = t
       · rw [e,upd_at,HD.out.1,HD.out.2]
       · rw [upd_ne _ _ _ e]; exact HI.out.2.1 j (by omega)
     try rw [← hws]
     clear hws hfc hff hcell
     go_roundw
     case rel => exact ⟨t + 1,_,by omega,by go_num,HY.out⟩
     case measure => simp [intOf]; omega
   · have hib : ¬ (t : Int) < (n : Int) := by omega
     have HE : Hid (∀ j,j < n → f j = .string (tob (dgd (l.getD j 0)))) := fun j hj => HI.out.2.1 j (by omega)
     go_wp2_with (go_at_call 108; refine (join_at HI.out.1 HA.out.2.1 HE.out HA.out.2.2.2 hn HY0.out).mono ?_; rintro e w2 ⟨rfl,hb2⟩)
     have HZ : Hid (Below w.heap.size w w2 ∧ y ++ ⟨#[10]⟩ = tob (tlL l ++ [10])) := ⟨bel_up' HI.out.2.2 hb2,by rw [HY0.out]; exact tob_app _ [10]⟩
     clear hb2
     go_ret
     exact ⟨by rw [← HZ.out.2]; rfl,HZ.out.1⟩
def rowL (n : Nat) (r : Nat → Nat) : List Nat := (List.range n).map r
def cdL (q n k : Nat) (R : Nat → Nat → Nat) : List (List Nat) := [q,n] :: (List.range k).map fun i => rowL n (R i)
theorem rowL_len (n : Nat) (r : Nat → Nat) : (rowL n r).length = n := by simp [rowL]
theorem rowL_at {n : Nat} (r : Nat → Nat) {j : Nat} (hj : j < n) : (rowL n r).getD j 0 = r j := by
 unfold rowL
 rw [List.getD_eq_getElem?_getD,List.getElem?_map,List.getElem?_range hj]; rfl
theorem rowL_lt {n : Nat} {r : Nat → Nat} (h : ∀ j,j < n → r j < 100) : ∀ v ∈ rowL n r,v < 100 := by
 intro v hv
 obtain ⟨j,hj,rfl⟩ := List.mem_map.1 hv
 exact h j (List.mem_range.1 hj)
theorem cdL_next (q n k : Nat) (R : Nat → Nat → Nat) : txL (cdL q n (k + 1) R) = txL (cdL q n k R) ++ (tlL (rowL n (R k)) ++ [10]) := by
 unfold cdL
 rw [List.range_succ,List.map_append]
 exact txL_snoc (rowL n (R k)) ([q,n] :: (List.range k).map fun i => rowL n (R i))
theorem cdL_len {q n : Nat} {R : Nat → Nat → Nat} (hq : q < 100) (hn : n ≤ 64) : ∀ k,(∀ i,i < k → ∀ j,j < n → R i j < 100) → (txL (cdL q n k R)).length ≤ 7 + k * 200
 | 0,_ => by
   show (tlL [q,n] ++ 10 :: []).length ≤ _
   have := tlL_len [q,n] (fun v hv => by simp at hv; omega)
   rw [List.length_append]
   simp only [List.length_cons,List.length_nil] at this ⊢
   omega
 | k + 1,h => by
   have ih := cdL_len hq hn k (fun i hi => h i (by omega))
   have h2 := tlL_len (rowL n (R k)) (rowL_lt (h k (by omega)))
   rw [rowL_len] at h2
   rw [cdL_next,List.length_append,List.length_append]
   simp only [List.length_cons,List.length_nil]
   omega
theorem told_at {ao : Option Addr} {n ca : Nat} {z : Nat → Int} {l : List Nat} {y : ByteArray} {w : World} (hs : SlZ ao n z w) (hl : l.length = n) (hz : ∀ j,j < n → z j = ((l.getD j 0 : Nat) : Int)) (hv : ∀ v ∈ l,v < 100) (hn : n ≤ 1000) (hy : y = tob (tlL l)) :
   Calls Tryz.prog 80 #[.slice ao n ca] w fun e w' => e = .returned (.string y) ∧ Below w.heap.size w w' := by
 rw [hy]; exact told_any hs hl hz hv hn
theorem two_slz (q n : Nat) (w : World) : SlZ (some ⟨w.heap.size,0,none⟩) 2 (fun j => ((([q,n] : List Nat).getD j 0 : Nat) : Int)) (w.alloc (.cells #[.int .i64 (q : Nat), .int .i64 (n : Nat)] 3)) := by
 intro j hj
 refine ⟨w.heap.size,0,rfl, ?_⟩
 rw [Nat.zero_add,cell_of_row _ _ _ _ _ (0,0) (two_new _)]
 match j,hj with
 | 0,_ => rfl
 | 1,_ => rfl
set_option maxHeartbeats 4000000 in
set_option maxRecDepth 100000 in
theorem codePrint_any {ao : Option Addr} {q n k rc : Nat} {A : Nat → Option Addr} {C : Nat → Nat} {R : Nat → Nat → Nat} {w : World} (hA : MatZ ao k A (fun _ => n) C (fun i j => ((R i j : Nat) : Int)) w) (hk : k ≤ 64) (hn : n ≤ 64) (hq : q < 100) (hR : ∀ i,i < k → ∀ j,j < n → R i j < 100) :
   Calls Tryz.prog 42 #[.agg #[.int .i64 (q : Nat), .int .i64 (n : Nat), .slice ao k rc]] w fun e w' => e = .returned (.string (tob (txL (cdL q n k R)))) ∧ Below w.heap.size w w' := by
 have HA : Hid (MatZ ao k A (fun _ => n) C (fun i j => ((R i j : Nat) : Int)) w ∧ ∀ i,i < k → ∀ j,j < n → R i j < 100) := ⟨hA,hR⟩
 clear hA hR
 obtain ⟨w0,hw0⟩ : ∃ w0,w0 = w.alloc (.cells #[.int .i64 (q : Nat), .int .i64 (n : Nat), .slice ao k rc] 25) := ⟨_,rfl⟩
 obtain ⟨b,hbe⟩ : ∃ b,b = w.heap.size := ⟨_,rfl⟩
 have HW : Hid (Below w.heap.size w w0 ∧ CB b q n (.slice ao k rc) w0 ∧ w0.heap.size = b + 1) := by
   rw [hw0,hbe]; exact ⟨(Below.refl _ _).alloc (Nat.le_refl _) _,CB.new _ _ _ w,by simp⟩
 obtain ⟨y,hy⟩ : ∃ y,y = tob (tlL [q,n]) := ⟨_,rfl⟩
 have hys : y.size ≤ 6 := by
   rw [hy,tob_size]
   exact tlL_len [q,n] (fun v hv => by simp at hv; omega)
 have HY0 : Hid (y = tob (tlL [q,n])) := hy
 have hz0 : ¬ 9223372036854775807 < y.size + 1 := by omega
 have hz00 : ¬ (9223372036854775807 : Int) < (y.size : Int) + 1 := by omega
 have HTd : Hid (Calls Tryz.prog 80 #[.slice (some ⟨b + 1,0,none⟩) 2 2] (w0.alloc (.cells #[.int .i64 (q : Nat), .int .i64 (n : Nat)] 3)) fun e w' => e = .returned (.string y) ∧ Below w0.heap.size w0 w') := by
   have hal : Below w0.heap.size w0 (w0.alloc (.cells #[.int .i64 (q : Nat), .int .i64 (n : Nat)] 3)) := (Below.refl _ _).alloc (Nat.le_refl _) _
   have h2 := two_slz q n w0
   rw [HW.out.2.2] at h2
   refine (told_at h2 rfl (fun j _ => rfl) (fun v hv => by simp at hv; omega) (by omega) hy).mono ?_
   rintro e w' ⟨he,hb⟩
   exact ⟨he,bel_up' hal hb⟩
 clear hy
 go_enter Tryz.func42,Tryz.ntmps42
 go_wp2_with fail
 rw [← hw0, ← hbe]
 clear hw0 hbe
 refine HTd.out.mono ?_
 rintro e w1 ⟨rfl,hb1⟩
 have H1 : Hid (Below w.heap.size w w1 ∧ CB b q n (.slice ao k rc) w1) := ⟨bel_up' HW.out.1 hb1,HW.out.2.1.keep hb1⟩
 clear hb1
 go_wp2
 go_loopw [3,4] (fun vs vi wr => ∃ (i : Nat) (s : ByteArray),i ≤ k ∧ vi = .int .i64 (i : Nat) ∧ vs = .string s ∧ s.size ≤ 20000 ∧ Hid (s = tob (txL (cdL q n i R)) ∧ Below w.heap.size w wr ∧ CB b q n (.slice ao k rc) wr)) (fun _ vi _ => k - (intOf vi).toNat)
 case atStart =>
   refine ⟨0,_,by omega,rfl,rfl, ?_, ?_,H1.out.1,H1.out.2⟩
   · rw [HY0.out]
     show (tob (tlL [q,n]) ++ tob [10]).size ≤ 20000
     rw [tob_app,tob_size,List.length_append]
     have := tlL_len [q,n] (fun v hv => by simp at hv; omega)
     simp only [List.length_cons,List.length_nil] at this ⊢
     omega
   · rw [HY0.out]
     exact tob_app _ [10]
 case round =>
   obtain ⟨i,s,hi,rfl,rfl,hs,HI⟩ := hrel
   rename World => wr
   obtain ⟨c0,c1,c2⟩ := HI.out.2.2
   by_cases hlt : i < k
   · have hib : (i : Int) < (k : Int) := by omega
     have hib0 : (0 : Int) ≤ (i : Int) := by omega
     obtain ⟨ba,oa,rfl,hc0⟩ := HA.out.1.cell i hlt
     have hcell := (HI.out.2.1.cell (p := ⟨ba,oa + i,none⟩) (cell_lt hc0)).trans hc0
     obtain ⟨d,hd⟩ : ∃ d,d = tob (tlL (rowL n (R i))) := ⟨_,rfl⟩
     have hds : d.size ≤ 192 := by
       rw [hd,tob_size]
       have := tlL_len (rowL n (R i)) (rowL_lt (HA.out.2 i hlt))
       rw [rowL_len] at this
       omega
     have HD : Hid (d = tob (tlL (rowL n (R i))) ∧ SlZ (A i) n (fun j => ((R i j : Nat) : Int)) wr) := ⟨hd,(HA.out.1.below HI.out.2.1).sl i hlt⟩
     have hz1 : ¬ 9223372036854775807 < s.size + d.size := by omega
     have hz2 : ¬ (9223372036854775807 : Int) < (s.size : Int) + (d.size : Int) := by omega
     have hz3 : ¬ 9223372036854775807 < s.size + d.size + 1 := by omega
     have hz4 : ¬ (9223372036854775807 : Int) < (s.size : Int) + (d.size : Int) + 1 := by omega
     clear hc0 hd
     go_wp2_with (go_at_call 80; refine (told_at HD.out.2 (rowL_len n (R i)) (fun j hj => by rw [rowL_at (R i) hj]) (rowL_lt (HA.out.2 i hlt)) (by omega) HD.out.1).mono ?_; rintro e w2 ⟨rfl,hb2⟩)
     have HN : Hid (s ++ d ++ ⟨#[10]⟩ = tob (txL (cdL q n (i + 1) R)) ∧ (tob (txL (cdL q n (i + 1) R))).size ≤ 20000 ∧ Below w.heap.size w w2 ∧ CB b q n (.slice (some ⟨ba,oa,none⟩) k rc) w2) := by
       refine ⟨?_, ?_,bel_up' HI.out.2.1 hb2,HI.out.2.2.keep hb2⟩
       · rw [HI.out.1,HD.out.1,cdL_next]
         show tob _ ++ tob _ ++ tob [10] = _
         rw [tob_app,tob_app,List.append_assoc]
       · rw [tob_size]
         have := cdL_len hq hn (i + 1) (fun i' hi' => HA.out.2 i' (by omega))
         omega
     clear hb2 hcell c0 c1 c2
     go_roundw
     case rel => exact ⟨i + 1,_,by omega,by go_num,rfl,by rw [HN.out.1]; exact HN.out.2.1,HN.out.1,HN.out.2.2⟩
     case measure => simp [intOf]; omega
   · have hib : ¬ (i : Int) < (k : Int) := by omega
     have HE : Hid (s = tob (txL (cdL q n k R))) := by
       have h := HI.out.1
       rw [show i = k by omega] at h
       exact h
     go_wp2
     go_ret
     exact ⟨by rw [← HE.out]; rfl,HI.out.2.1⟩
def BU (b : Nat) (l : List UInt8) (w : World) : Prop := Lib.IsBuilder (lay156_ren.t 72) (lay156_ren.t 5) b b (Lib.byteCells l) w
theorem bu_new (w : World) : BU w.heap.size [] (w.alloc (.cells #[.pointer none, .slice none 0 0] 100)) := Lib.fresh_isBuilder _ _ w
theorem bat_keep {T e : TypeId} {B b : Nat} {p : Value} {bs : List Value} {w w' : World} (h : Lib.BuilderAt T e B b p bs w) (hb : Below w.heap.size w w') : Lib.BuilderAt T e B b p bs w' := by
 have hlt := h.lt
 obtain ⟨h1,v,h2,h3,h4⟩ := h
 refine ⟨h1,v,by rw [hb.block b hlt]; exact h2, ?_,h4⟩
 obtain ⟨k1,k2⟩ := h3
 refine ⟨k1, ?_⟩
 rcases k2 with k2 | ⟨g,cap,cur,hv,hg,hh,r⟩
 · exact Or.inl k2
 · exact Or.inr ⟨g,cap,cur,hv,hg,by rw [hb.block g (lt_of_block hh)]; exact hh,r⟩
theorem BU.keep {b : Nat} {l : List UInt8} {w w' : World} (h : BU b l w) (hb : Below w.heap.size w w') : BU b l w' := by
 rcases h with h | h
 · exact Or.inl (bat_keep h hb)
 · exact Or.inr (bat_keep h hb)
theorem BU.lt {b : Nat} {l : List UInt8} {w : World} (h : BU b l w) : b < w.heap.size := by
 rcases h with h | h
 · exact h.lt
 · exact h.lt
theorem write_at {b : Nat} {l : List UInt8} {s : ByteArray} {w : World} (h : BU b l w) (hs : l.length + s.size ≤ 1000000) :
   Calls Tryz.prog 74 #[.pointer (some ⟨b,0,none⟩), .string s] w fun e w' => e = .returned (.tuple #[.int .i64 s.size, .nilIface]) ∧ BU b (l ++ s.data.toList) w' ∧ Below b w w' := by
 refine (Any.Builder_WriteString { lay156 with } bex156 b b (Lib.byteCells l) s w h (by rw [Lib.byteCells_length]; omega) (Nat.le_of_lt h.lt)).mono ?_
 rintro e w' ⟨rfl,h1,h2⟩
 refine ⟨rfl,Or.inr ?_,h2⟩
 have e1 : Lib.byteCells (l ++ s.data.toList) = Lib.byteCells l ++ Lib.strCells s := Lib.byteCells_append _ _
 rw [e1]
 exact h1
theorem string_at {b : Nat} {l : List UInt8} {w : World} (h : BU b l w) :
   Calls Tryz.prog 76 #[.pointer (some ⟨b,0,none⟩)] w fun e w' => e = .returned (.string (tob l)) ∧ Below b w w' :=
 Any.Builder_String_any { lay156 with } bex156 b b l w h (Nat.le_of_lt h.lt)
theorem line_at {ao : Option Addr} {n ca : Nat} {z : Nat → Int} {l : List Nat} {y : ByteArray} {w : World} (hs : SlZ ao n z w) (hl : l.length = n) (hz : ∀ j,j < n → z j = ((l.getD j 0 : Nat) : Int)) (hv : ∀ v ∈ l,v < 100) (hn : n ≤ 1000) (hy : y = tob (tlL l ++ [10])) :
   Calls Tryz.prog 75 #[.slice ao n ca] w fun e w' => e = .returned (.string y) ∧ Below w.heap.size w w' := by
 rw [hy]; exact line_any hs hl hz hv hn
theorem tob_list (l : List UInt8) : (tob l).data.toList = l := by
 show l.toArray.toList = l
 simp
def PrP (D : FD) (n m : Nat) (M : Nat → Nat → Nat) (e : Ending) : Prop := ∃ k R,e = .returned (.tuple #[.string (tob (txL (cdL D.q n k R))), .int .i64 0]) ∧ Red D n m M k R
set_option maxHeartbeats 8000000 in
set_option maxRecDepth 100000 in
theorem print_any {D : FD} (hD : D ∈ fieldsL) {ao : Option Addr} {m n ca : Nat} {A : Nat → Option Addr} {N C : Nat → Nat} {Z : Nat → Nat → Int} {w : World} (ha : CdZ D ao m n A N C Z w)
   (hC : ∀ wx,Below w.heap.size w wx → Calls Tryz.prog 19 #[.agg #[.int .i64 D.q, .int .i64 (n : Nat), .slice ao m ca]] wx fun x w' => x = .returned (.int .i64 0) ∧ Below wx.heap.size wx w') :
   Calls Tryz.prog 40 #[.agg #[.int .i64 D.q, .int .i64 (n : Nat), .slice ao m ca]] w fun e w' => PrP D n m (mzc N Z) e ∧ Below w.heap.size w w' := by
 have hn1 := ha.n1
 have hn := ha.n64
 have hq : D.q < 100 := by
   have : ∀ D ∈ fieldsL,D.q < 100 := by decide +kernel
   exact this D hD
 obtain ⟨w0,hw0⟩ : ∃ w0,w0 = w.alloc (.cells #[.int .i64 D.q, .int .i64 (n : Nat), .slice ao m ca] 25) := ⟨_,rfl⟩
 obtain ⟨b,hbe⟩ : ∃ b,b = w.heap.size := ⟨_,rfl⟩
 have HW : Hid (Below w.heap.size w w0 ∧ CB b D.q n (.slice ao m ca) w0 ∧ RB b w0 ∧ w0.heap.size = b + 1 ∧ b = w.heap.size) := by
   rw [hw0,hbe]; exact ⟨(Below.refl _ _).alloc (Nat.le_refl _) _,CB.new _ _ _ w,RB.new _ _ _ w,by simp,rfl⟩
 have HMk : Hid (Calls Tryz.prog 17 #[.agg #[.int .i64 D.q, .int .i64 (n : Nat), .slice ao m ca]] w0 fun x w' => ∃ k R ro rc,x = .returned (.tuple #[.agg #[.int .i64 D.q, .int .i64 (n : Nat), .slice ro k rc], .int .i64 0]) ∧ MV w0.heap.size (.slice ro k rc) k n R w' ∧ Red D n m (mzc N Z) k R ∧ Below w0.heap.size w0 w') :=
   cMake_ok hD (ha.below HW.out.1) (fun wx hx => hC wx (bel_up' HW.out.1 hx))
 clear ha hC
 go_enter Tryz.func40,Tryz.ntmps40
 go_wp2_with fail
 rw [← hw0, ← hbe]
 clear hw0 hbe
 refine HMk.out.mono ?_
 rintro x w1 ⟨k,R,ro,rc,rfl,hmv,hred,hb1⟩
 have H1 : Hid (MV w0.heap.size (.slice ro k rc) k n R w1 ∧ Red D n m (mzc N Z) k R ∧ Below w.heap.size w w1 ∧ RB b w1 ∧ b < w1.heap.size) := ⟨hmv,hred,bel_up' HW.out.1 hb1,HW.out.2.2.1.keep hb1,by have := hb1.size; have := HW.out.2.2.2.1; omega⟩
 clear hmv hred hb1
 have hk : k ≤ 64 := by have := H1.out.2.1.le; omega
 have HR : Hid (∀ i,i < k → ∀ j,j < n → R i j < 100) := fun i hi j _ => by
   have := H1.out.2.1.rows.1 i hi j
   omega
 obtain ⟨⟨x0,c0⟩,⟨x1,c1⟩,⟨x2,c2⟩,f0,f1,f2⟩ := H1.out.2.2.2.1
 obtain ⟨wA,hwA⟩ : ∃ wA,wA = laid w1 b D.q n (.slice ro k rc) := ⟨_,rfl⟩
 have HA : Hid (CB b D.q n (.slice ro k rc) wA ∧ RLz (.slice ro k rc) k n R wA ∧ Below w.heap.size w wA ∧ b < wA.heap.size) := by
   have h1 := HW.out.2.2.2
   rw [hwA]
   refine ⟨laid_cb H1.out.2.2.2.1 _ _ _,(laid_mv H1.out.1 (by omega) _ _ _).rlz (by omega),laid_below H1.out.2.2.1 (by omega) _ _ _, ?_⟩
   unfold laid
   simp
   exact H1.out.2.2.2.2
 obtain ⟨b2,hb2⟩ : ∃ b2,b2 = w1.heap.size := ⟨_,rfl⟩
 have hsA : wA.heap.size = b2 := by rw [hwA,hb2]; unfold laid; simp
 have HsA : Hid (wA.heap.size = b2) := hsA
 obtain ⟨wB,hwB⟩ : ∃ wB,wB = wA.alloc (.cells #[.pointer none, .slice none 0 0] 100) := ⟨_,rfl⟩
 have hal : Below wA.heap.size wA wB := by rw [hwB]; exact (Below.refl _ _).alloc (Nat.le_refl _) _
 obtain ⟨y,hy⟩ : ∃ y,y = tob (tlL [D.q,n] ++ [10]) := ⟨_,rfl⟩
 have hys : y.size ≤ 7 := by
   rw [hy,tob_size,List.length_append]
   have := tlL_len [D.q,n] (fun v hv => by simp at hv; omega)
   simp only [List.length_cons,List.length_nil] at this ⊢
   omega
 have HB : Hid (BU b2 [] wB ∧ Below b2 wA wB ∧ CB b D.q n (.slice ro k rc) wB ∧ b < b2 ∧ b2 = wA.heap.size ∧ y = tob (tlL [D.q,n] ++ [10])) := by
   rw [← hsA]
   exact ⟨by rw [hwB]; exact bu_new wA,hal,HA.out.1.keep hal,HA.out.2.2.2,rfl,hy⟩
 have HLn : Hid (Calls Tryz.prog 75 #[.slice (some ⟨b2 + 1,0,none⟩) 2 2] (wB.alloc (.cells #[.int .i64 (D.q : Nat), .int .i64 (n : Nat)] 3)) fun e w' => e = .returned (.string y) ∧ Below wB.heap.size wB w') := by
   have hal2 : Below wB.heap.size wB (wB.alloc (.cells #[.int .i64 (D.q : Nat), .int .i64 (n : Nat)] 3)) := (Below.refl _ _).alloc (Nat.le_refl _) _
   have hsB : wB.heap.size = b2 + 1 := by rw [hwB, ← hsA]; simp
   have h2 := two_slz D.q n wB
   rw [hsB] at h2
   refine (line_at h2 rfl (fun j _ => rfl) (fun v hv => by simp at hv; omega) (by omega) hy).mono ?_
   rintro e w' ⟨he,hb⟩
   exact ⟨he,bel_up' hal2 hb⟩
 obtain ⟨e0,e1,e2⟩ := HB.out.2.2.1
 rw [hwB] at e0 e1
 unfold laid at hwA
 rw [hwA] at e0 e1
 clear hal hy hsA
 go_wp2_with fail
 rw [← hwA, ← hb2, ← hwB]
 clear hwA hb2 hwB e0 e1 e2 c0 c1 c2 f0 f1 f2
 refine HLn.out.mono ?_
 rintro e w3 ⟨rfl,hb3⟩
 have H3 : Hid (BU b2 [] w3 ∧ Below b2 wA w3) := ⟨HB.out.1.keep hb3,HB.out.2.1.trans (hb3.mono (by have := HB.out.1.lt; omega))⟩
 clear hb3
 go_wp2_with fail
 refine (write_at H3.out.1 (by simp; omega)).mono ?_
 rintro e w4 ⟨rfl,hbu4,hb4⟩
 have H4 : Hid (BU b2 (txL (cdL D.q n 0 R)) w4 ∧ Below b2 wA w4) := by
   refine ⟨?_,H3.out.2.trans hb4⟩
   have h := hbu4
   rw [HB.out.2.2.2.2.2,tob_list,List.nil_append] at h
   exact h
 clear hbu4 hb4
 obtain ⟨e0,e1,e2⟩ := HA.out.1.below H4.out.2 HB.out.2.2.2.1
 go_wp2
 clear e0 e1 e2
 go_loopw [26] (fun vi wr => ∃ (i : Nat),i ≤ k ∧ vi = .int .i64 (i : Nat) ∧ Hid (BU b2 (txL (cdL D.q n i R)) wr ∧ Below b2 wA wr)) (fun vi _ => k - (intOf vi).toNat)
 case atStart => exact ⟨0,by omega,rfl,H4.out⟩
 case round =>
   obtain ⟨i,hi,rfl,HI⟩ := hrel
   rename World => wr
   by_cases hlt : i < k
   · have hib : (i : Int) < (k : Int) := by omega
     have hib0 : (0 : Int) ≤ (i : Int) := by omega
     obtain ⟨ao',ca',A',C',hv,hmat⟩ := HA.out.2.1
     cases hv
     have hmr := hmat.below (w' := wr) (by rw [← HB.out.2.2.2.2.1]; exact HI.out.2)
     obtain ⟨ba,oa,hro,hc0⟩ := hmr.cell i hlt
     subst hro
     have HS : Hid (SlZ (A' i) n (fun j => ((R i j : Nat) : Int)) wr) := hmr.sl i hlt
     obtain ⟨d,hd⟩ : ∃ d,d = tob (tlL (rowL n (R i)) ++ [10]) := ⟨_,rfl⟩
     have HD : Hid (d = tob (tlL (rowL n (R i)) ++ [10])) := hd
     clear hd
     have hds : d.size ≤ 200 := by
       rw [HD.out,tob_size,List.length_append]
       have := tlL_len (rowL n (R i)) (rowL_lt (HR.out i hlt))
       rw [rowL_len] at this
       simp only [List.length_cons,List.length_nil]
       omega
     have HL2 : Hid ((txL (cdL D.q n i R)).length ≤ 20000) := by
       have := cdL_len hq hn i (fun i' hi' => HR.out i' (by omega))
       show (txL (cdL D.q n i R)).length ≤ 20000
       omega
     clear hmat hmr
     go_wp2_with fail
     refine (line_at HS.out (rowL_len n (R i)) (fun j hj => by rw [rowL_at (R i) hj]) (rowL_lt (HR.out i hlt)) (by omega) HD.out).mono ?_
     rintro e w5 ⟨rfl,hb5⟩
     have H5 : Hid (BU b2 (txL (cdL D.q n i R)) w5 ∧ Below b2 wA w5) := ⟨HI.out.1.keep hb5,HI.out.2.trans (hb5.mono (Nat.le_of_lt HI.out.1.lt))⟩
     clear hb5 hc0
     go_wp2_with fail
     refine (write_at H5.out.1 (by have := HL2.out; omega)).mono ?_
     rintro e w6 ⟨rfl,hbu6,hb6⟩
     have H6 : Hid (BU b2 (txL (cdL D.q n (i + 1) R)) w6 ∧ Below b2 wA w6) := by
       refine ⟨?_,H5.out.2.trans hb6⟩
       have h := hbu6
       rw [HD.out,tob_list, ← cdL_next] at h
       exact h
     clear hbu6 hb6
     go_wp2
     go_roundw
     case rel => exact ⟨i + 1,by omega,by go_num,H6.out⟩
     case measure => simp [intOf]; omega
   · have hib : ¬ (i : Int) < (k : Int) := by omega
     have HE : Hid (BU b2 (txL (cdL D.q n k R)) wr) := by
       have h := HI.out.1
       rw [show i = k by omega] at h
       exact h
     obtain ⟨s,hsx⟩ : ∃ s,s = tob (txL (cdL D.q n k R)) := ⟨_,rfl⟩
     have HSx : Hid (s = tob (txL (cdL D.q n k R))) := hsx
     clear hsx
     go_wp2_with fail
     refine (string_at HE.out).mono ?_
     rintro e w7 ⟨rfl,hb7⟩
     rw [← HSx.out]
     have H7 : Hid (Below w.heap.size w w7) := by
       have h1 := HB.out.2.2.2
       have h2 := HW.out.2.2.2.2
       exact HA.out.2.2.1.trans ((HI.out.2.trans hb7).mono (by omega))
     clear hb7
     go_wp2
     go_ret2
     exact ⟨⟨k,R,by rw [HSx.out]; rfl,H1.out.2.1⟩,H7.out⟩
theorem cchk_cdz {D : FD} {ao : Option Addr} {m n : Nat} {A : Nat → Option Addr} {N C : Nat → Nat} {Z : Nat → Nat → Int} {w : World} (h : CdZ D ao m n A N C Z w) : D.cchk n m N Z = 0 := by
 have h1 := h.n1
 have h2 := h.n64
 unfold FD.cchk
 rw [if_neg (by omega),h.chk,if_neg (fun e => e rfl),if_neg]
 rintro ⟨h3,h4⟩
 exact h4 (by rw [h.wd h3])
theorem MatZ.turn {ao : Option Addr} {m n : Nat} {A : Nat → Option Addr} {N C : Nat → Nat} {Z Y : Nat → Nat → Int} {w : World} (h : MatZ ao m A N C Z w) (hN : ∀ i,i < m → N i = n) (hZ : ∀ i,i < m → ∀ j,j < n → Z i j = Y i j) : MatZ ao m A (fun _ => n) C Y w := by
 refine ⟨fun i hi => ?_,fun i hi => ?_,fun i hi => ?_,h.cap,h.nil,fun i hi => ?_⟩
 · have := h.cell i hi
   rw [hN i hi] at this
   exact this
 · have h1 := h.sl i hi
   rw [hN i hi] at h1
   intro j hj
   obtain ⟨b,o,e,hc⟩ := h1 j hj
   exact ⟨b,o,e,by rw [hc,hZ i hi j hj]⟩
 · have := h.le i hi
   rw [hN i hi] at this
   exact this
 · have := h.few i hi
   rw [hN i hi] at this
   exact this
theorem cdL_at {q n k : Nat} {R : Nat → Nat → Nat} {i : Nat} (hi : i < k) : (cdL q n k R).getD (i + 1) [] = rowL n (R i) := by
 unfold cdL
 show ((List.range k).map fun i => rowL n (R i)).getD i [] = _
 rw [List.getD_eq_getElem?_getD,List.getElem?_map,List.getElem?_range hi]; rfl
theorem cdL_num {q n k : Nat} {R : Nat → Nat → Nat} (hq : q < 100) (hn : n < 100) (hR : ∀ i,i < k → ∀ j,j < n → R i j < 100) : ∀ l ∈ cdL q n k R, ∀ v ∈ l,v < 100 := by
 intro l hl v hv
 rcases List.mem_cons.1 hl with e | e
 · subst e
   simp at hv
   omega
 · obtain ⟨i,hi,rfl⟩ := List.mem_map.1 e
   exact rowL_lt (hR i (List.mem_range.1 hi)) v hv
theorem text_read {s : ByteArray} {q n k : Nat} {R : Nat → Nat → Nat} (hs : s = tob (txL (cdL q n k R))) (hq : q < 100) (hn1 : 1 ≤ n) (hn : n ≤ 64) (hk : k ≤ 19) (hR : ∀ i,i < k → ∀ j,j < n → R i j < 100) :
   s.size ≤ 4000 ∧ txe s = 0 ∧ lcN s = k + 1 ∧ lnz (lcS s 0) 0 = (q : Int) ∧ lnz (lcS s 0) 1 = (n : Int) ∧ (∀ i,i < k → tN s i = n) ∧ ∀ i,i < k → ∀ j,j < n → tZ s i j = ((R i j : Nat) : Int) := by
 have hnum := cdL_num (k := k) hq (show n < 100 by omega) hR
 have hlen := cdL_len hq hn k hR
 have hsz : s.size ≤ 4000 := by rw [hs,tob_size]; omega
 have hs0 : s.size ≠ 0 := by
   rw [hs,tob_size]
   unfold cdL txL
   simp
 have hl : s.data.toList = txL (cdL q n k R) := by
   rw [hs]
   show (txL (cdL q n k R)).toArray.toList = _
   simp
 obtain ⟨h1,h2⟩ := txL_lines hl hnum
 have hL : (cdL q n k R).length = k + 1 := by simp [cdL]
 rw [hL] at h1 h2
 have e0 : lcS s 0 = tob (tlL [q,n]) := h2 0 (by omega)
 obtain ⟨a1,a2,a3⟩ := tlL_line (l := [q,n]) (by simp) (fun v hv => by simp at hv; omega)
 have key : ∀ i,i < k → pcN 32 (lcS s (i + 1)) = n ∧ lne (lcS s (i + 1)) = 0 ∧ ∀ j,j < n → lnz (lcS s (i + 1)) j = ((R i j : Nat) : Int) := fun i hi => by
   have e := h2 (i + 1) (by omega)
   rw [cdL_at hi] at e
   have hne : rowL n (R i) ≠ [] := by
     intro h
     have := rowL_len n (R i)
     rw [h] at this
     simp at this
     omega
   obtain ⟨b1,b2,b3⟩ := tlL_line hne (rowL_lt (hR i hi))
   rw [rowL_len] at b1 b3
   rw [e]
   exact ⟨b1,b2,fun j hj => by rw [b3 j hj,rowL_at (R i) hj]⟩
 refine ⟨hsz, ?_,h1,by rw [e0]; exact a3 0 (by simp),by rw [e0]; exact a3 1 (by simp),fun i hi => (key i hi).1,fun i hi j hj => (key i hi).2.2 j hj⟩
 unfold txe
 rw [if_neg (by omega),if_neg hs0,h1]
 refine fer_all _ (fun i hi => ?_)
 rcases i with _ | i
 · exact pqe_two (by rw [e0]; exact a2) (by rw [e0]; exact a1)
 · exact pqe_more (key i (by omega)).2.1 (by omega)
theorem parse_text {D : FD} (hD : D ∈ fieldsL) {n k : Nat} {R : Nat → Nat → Nat} {s : ByteArray} (mx : Int) {w : World} (hm : w.cell? ⟨mxl,0,none⟩ = some (.int .i64 mx)) (hs : s = tob (txL (cdL D.q n k R))) (hn1 : 1 ≤ n) (hn : n ≤ 64) (hk : k ≤ 19) (hel : ∀ i,i < k → El D (R i)) (hbd : ∀ i,i < k → Bd n (R i)) :
   Calls Tryz.prog 41 #[.string s] w fun e w' => (∃ k' R' ro rc,e = .returned (.tuple #[.agg #[.int .i64 D.q, .int .i64 (n : Nat), .slice ro k' rc], .int .i64 0]) ∧ MV w.heap.size (.slice ro k' rc) k' n R' w' ∧ Red D n k R k' R') ∧ Below w.heap.size w w' := by
 have hq : D.q < 100 := by
   have : ∀ D ∈ fieldsL,D.q < 100 := by decide +kernel
   exact this D hD
 obtain ⟨t1,t2,t3,t4,t5,t6,t7⟩ := text_read hs hq hn1 hn hk (fun i hi j _ => by have := hel i hi j; omega)
 refine (parse_any s mx (by omega) hm 0 D.q n (fun B v w' => ∃ k' R' ro rc,v = .slice ro k' rc ∧ MV B v k' n R' w' ∧ Red D n k R k' R') ?_ ?_ ?_).mono ?_
 · rintro B b v wx x y u ⟨k',R',ro,rc,hv,hmv,hr⟩ hb _
   exact ⟨k',R',ro,rc,hv,laid_mv hmv hb _ _ _,hr⟩
 · rintro B B' v wx ⟨k',R',ro,rc,hv,hmv,hr⟩ hB
   exact ⟨k',R',ro,rc,hv,hmv.mono hB,hr⟩
 · intro ao A C ca wx hA
   rw [t3,Nat.add_sub_cancel] at hA ⊢
   rw [t4,t5]
   have hM := hA.turn t6 t7
   obtain ⟨A',C',hz⟩ := RLz.cdz (D := D) (ca := ca) ⟨ao,ca,A,C,rfl,hM⟩ hn1 hn (by omega) hel
   refine (cMake_ok (ca := ca) hD hz (fun wy hy => ?_)).mono ?_
   · have h := ccheck_any (ca := ca) hD n (hz.mat.below hy) (by omega)
     rw [cchk_cdz hz] at h
     exact h
   · rintro e w' ⟨k',R',ro,rc,rfl,hmv,hr,hb⟩
     exact ⟨⟨ro,k',rc,rfl,k',R',ro,rc,rfl,hmv,hr.of_eq (fun i hi => mzc_rows hbd i hi)⟩,hb⟩
 · rintro e w' ⟨hP,hb⟩
   refine ⟨?_,hb⟩
   rcases hP with ⟨h0,_⟩ | ⟨_,ro,k0,rc,rfl,k',R',ro',rc',hv,hmv,hr⟩
   · exact absurd t2 h0
   · cases hv
     exact ⟨k0,R',ro,rc,rfl,hmv,hr⟩
end Go.Proofs.YtinmkgohganllaaGreatDoor
