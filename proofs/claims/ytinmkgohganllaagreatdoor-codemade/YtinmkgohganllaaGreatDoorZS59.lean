/- Texts of ours, one behind the other: S59 S60 KP1 KP2 LS2 KP3 KP4 KP5. -/
import Derived.Lib.SplitLaws
import Derived.Lib.IndexBytes
import Derived.Test.YtinmkgohganllaaGreatDoorZI12
import Derived.Test.YtinmkgohganllaaGreatDoorZM3
import Derived.Laws.RangeAny
import Derived.StillTailTactics
import Derived.Shelf.Strings.Prefix
import Derived.Shelf.Strings.Split
import Derived.Test.YtinmkgohganllaaGreatDoorProg
import Derived.Test.YtinmkgohganllaaGreatDoorZV7
namespace Go.Proofs.YtinmkgohganllaaGreatDoor
def spl (c : UInt8) : List UInt8 → List (List UInt8)
 | [] => [[]]
 | x :: xs => if x = c then [] :: spl c xs else match spl c xs with
   | [] => [[x]]
   | p :: ps => (x :: p) :: ps
theorem spl_cons (c : UInt8) : ∀ s, ∃ p ps,spl c s = p :: ps
 | [] => ⟨[], [],rfl⟩
 | x :: xs => by
   unfold spl
   split
   · exact ⟨_,_,rfl⟩
   · obtain ⟨p,ps,e⟩ := spl_cons c xs
     rw [e]
     exact ⟨_,_,rfl⟩
theorem spl_at (c : UInt8) (s : List UInt8) : spl c (c :: s) = [] :: spl c s := by
 show (if c = c then _ else _) = _
 rw [if_pos rfl]
theorem spl_on {c x : UInt8} (h : x ≠ c) {s p : List UInt8} {ps : List (List UInt8)} (e : spl c s = p :: ps) : spl c (x :: s) = (x :: p) :: ps := by
 show (if x = c then _ else _) = _
 rw [if_neg h,e]
theorem spl_not {c : UInt8} : ∀ {s},c ∉ s → spl c s = [s]
 | [],_ => rfl
 | x :: xs,h => by
   rw [List.mem_cons,not_or] at h
   exact spl_on (fun e => h.1 e.symm) (spl_not h.2)
theorem spl_hit {c : UInt8} {b : List UInt8} : ∀ {a},c ∉ a → spl c (a ++ c :: b) = a :: spl c b
 | [],_ => spl_at c b
 | x :: xs,h => by
   rw [List.mem_cons,not_or] at h
   exact spl_on (fun e => h.1 e.symm) (spl_hit h.2)
theorem spl_snoc {c : UInt8} (x : UInt8) : ∀ {s : List UInt8} {L : List (List UInt8)} {p : List UInt8},spl c s = L ++ [p] → spl c (s ++ [x]) = if x = c then L ++ [p] ++ [[]] else L ++ [p ++ [x]]
 | [],L,p,e => by
   have e' : ([[]] : List (List UInt8)) = L ++ [p] := e
   cases L with
   | nil =>
     simp at e'
     subst e'
     by_cases h : x = c
     · rw [if_pos h,h]; exact spl_at c []
     · rw [if_neg h]
       exact spl_on h rfl
   | cons a L => simp at e'
 | y :: ys,L,p,e => by
   by_cases hy : y = c
   · subst hy
     rw [spl_at] at e
     cases L with
     | nil =>
       obtain ⟨q,qs,eq⟩ := spl_cons y ys
       rw [eq] at e
       simp at e
     | cons a L =>
       simp only [List.cons_append,List.cons.injEq] at e
       obtain ⟨e1,e2⟩ := e
       have ih := spl_snoc x e2
       show spl y (y :: (ys ++ [x])) = _
       rw [spl_at,ih, ← e1]
       split <;> simp
   · obtain ⟨q,qs,eq⟩ := spl_cons c ys
     rw [spl_on hy eq] at e
     cases L with
     | nil =>
       simp at e
       obtain ⟨e1,e2⟩ := e
       subst e2
       have ih := spl_snoc (L := []) x eq
       show spl c (y :: (ys ++ [x])) = _
       by_cases h : x = c
       · rw [if_pos h] at ih ⊢
         rw [spl_on hy ih, ← e1]; rfl
       · rw [if_neg h] at ih ⊢
         rw [spl_on hy ih, ← e1]; rfl
     | cons a L =>
       simp only [List.cons_append,List.cons.injEq] at e
       obtain ⟨e1,e2⟩ := e
       have ih := spl_snoc (L := q :: L) (p := p) x (by rw [eq,e2]; rfl)
       show spl c (y :: (ys ++ [x])) = _
       by_cases h : x = c
       · rw [if_pos h] at ih ⊢
         rw [spl_on hy ih, ← e1]; rfl
       · rw [if_neg h] at ih ⊢
         rw [spl_on hy ih, ← e1]; rfl
theorem first_of {c : UInt8} : ∀ {s : List UInt8},c ∈ s → ∃ a b,s = a ++ c :: b ∧ c ∉ a
 | x :: xs,h => by
   by_cases e : x = c
   · exact ⟨[],xs,by rw [e]; rfl,by simp⟩
   · rw [List.mem_cons] at h
     rcases h with h | h
     · exact absurd h.symm e
     · obtain ⟨a,b,e1,e2⟩ := first_of h
       exact ⟨x :: a,b,by rw [e1]; rfl,by rw [List.mem_cons,not_or]; exact ⟨fun h => e h.symm,e2⟩⟩
theorem iby_hit {c : UInt8} {b : List UInt8} : ∀ {a : List UInt8},c ∉ a → Go.Lib.indexByte (a ++ c :: b) c = (a.length : Int)
 | [],_ => by show (if c == c then (0 : Int) else _) = _; rw [if_pos (by simp)]; rfl
 | x :: xs,h => by
   rw [List.mem_cons,not_or] at h
   show (if x == c then (0 : Int) else if Go.Lib.indexByte (xs ++ c :: b) c == -1 then -1 else Go.Lib.indexByte (xs ++ c :: b) c + 1) = _
   rw [if_neg (by rw [beq_iff_eq]; exact fun e => h.1 e.symm),iby_hit h.2,if_neg (by rw [beq_iff_eq]; omega)]
   simp
theorem splitK_spl (c : UInt8) : ∀ n (s : List UInt8),s.length ≤ n → Go.Lib.splitK [c] 0 (s.count c) s = spl c s
 | n,s,hn => by
   by_cases h : c ∈ s
   · obtain ⟨a,b,rfl,ha⟩ := first_of h
     cases n with
     | zero => simp at hn
     | succ n =>
       have ih := splitK_spl c n b (by simp at hn; omega)
       have hc : (a ++ c :: b).count c = b.count c + 1 := by
         rw [List.count_append,List.count_cons_self,List.count_eq_zero.2 ha]; omega
       rw [hc,spl_hit ha]
       unfold Go.Lib.splitK
       rw [Go.Lib.index_one,iby_hit ha,if_neg (by rw [beq_iff_eq]; omega)]
       have e1 : ((a.length : Int)).toNat = a.length := rfl
       rw [e1]
       simp [ih]
   · have hc : s.count c = 0 := List.count_eq_zero.2 h
     rw [hc,spl_not h]
     rfl
theorem lines_eq {s : List UInt8} (hs : s ≠ []) : (∃ t,s = t ++ [10] ∧ Go.Lib.trimSuffix s [10] = t ∧ spl 10 s = spl 10 t ++ [[]]) ∨ (Go.Lib.trimSuffix s [10] = s ∧ ∃ L p,spl 10 s = L ++ [p] ∧ p ≠ []) := by
 obtain ⟨t,x,rfl⟩ : ∃ t x,s = t ++ [x] := ⟨s.dropLast,s.getLast hs,(List.dropLast_concat_getLast hs).symm⟩
 have hL : ∃ L p,spl 10 t = L ++ [p] := by
   obtain ⟨p,ps,e⟩ := spl_cons 10 t
   have hne : spl 10 t ≠ [] := by rw [e]; simp
   exact ⟨(spl 10 t).dropLast,(spl 10 t).getLast hne,(List.dropLast_concat_getLast hne).symm⟩
 obtain ⟨L,p,e⟩ := hL
 have h := spl_snoc x e
 by_cases hx : x = 10
 · left
   rw [if_pos hx] at h
   refine ⟨t,by rw [hx], ?_,by rw [h,e]⟩
   unfold Go.Lib.trimSuffix Go.Lib.hasSuffix
   rw [if_pos (by rw [hx,List.isSuffixOf_iff_suffix]; exact List.suffix_append _ _)]
   simp
 · right
   rw [if_neg hx] at h
   refine ⟨?_,L,p ++ [x],h,by simp⟩
   unfold Go.Lib.trimSuffix Go.Lib.hasSuffix
   rw [if_neg]
   rw [List.isSuffixOf_iff_suffix]
   rintro ⟨u,hu⟩
   have := congrArg List.getLast? hu
   simp at this
   exact hx this.symm
def isd (b : UInt8) : Bool := decide (48 ≤ b.toNat ∧ b.toNat ≤ 57)
def vlu : List UInt8 → Nat → Nat
 | [],n => n
 | b :: l,n => vlu l (n * 10 + (b.toNat - 48))
theorem vlu_snoc (x : UInt8) : ∀ l n,vlu (l ++ [x]) n = vlu l n * 10 + (x.toNat - 48)
 | [],_ => rfl
 | _ :: l,_ => vlu_snoc x l _
def rnm (w : List UInt8) : Int × Nat :=
 if w = [] ∨ w.all isd = false ∨ (1 < w.length ∧ w.head? = some 48) then (11,0) else if 9999 < vlu w 0 then (4,0) else (0,vlu w 0)
def fer (f : Nat → Int) : Nat → Int
 | 0 => 0
 | n + 1 => if fer f n ≠ 0 then fer f n else f n
theorem fer_next {f : Nat → Int} {n : Nat} (h : fer f n = 0) : fer f (n + 1) = f n := by
 show (if fer f n ≠ 0 then fer f n else f n) = f n
 rw [if_neg (fun q => q h)]
theorem fer_stay {f : Nat → Int} {i : Nat} (h : fer f i ≠ 0) : ∀ n,i ≤ n → fer f n = fer f i
 | n,hn => by
   induction n with
   | zero => rw [show i = 0 by omega]
   | succ n ih =>
     by_cases e : i = n + 1
     · rw [e]
     · have := ih (by omega)
       show (if fer f n ≠ 0 then fer f n else f n) = _
       rw [this,if_pos h]
theorem fer_all {f : Nat → Int} : ∀ n,(∀ i,i < n → f i = 0) → fer f n = 0
 | 0,_ => rfl
 | n + 1,h => by
   rw [fer_next (fer_all n (fun i hi => h i (by omega)))]
   exact h n (by omega)
end Go.Proofs.YtinmkgohganllaaGreatDoor
namespace Go.Proofs.YtinmkgohganllaaGreatDoor
def bts (s : ByteArray) (i : Nat) : Nat := (s.data.toList.getD i 0).toNat
theorem bts_at (s : ByteArray) (i : Nat) (h : i < s.size) : (s[i]'h).toNat = bts s i := by
 unfold bts
 have h' : i < s.data.size := h
 show ((s.data)[i]'h').toNat = _
 rw [List.getD_eq_getElem?_getD,Array.getElem?_toList,Array.getElem?_eq_getElem h']
 rfl
theorem siz_len (s : ByteArray) : s.data.toList.length = s.size := Array.length_toList
def bvl (s : ByteArray) (t : Nat) : Nat := vlu (s.data.toList.take t) 0
theorem bvl_next {s : ByteArray} {t : Nat} (h : t < s.size) : bvl s (t + 1) = bvl s t * 10 + (bts s t - 48) := by
 unfold bvl bts
 have h' : t < s.data.toList.length := by rw [siz_len]; exact h
 rw [List.take_succ_eq_append_getElem h',vlu_snoc,List.getD_eq_getElem?_getD,List.getElem?_eq_getElem h']
 rfl
theorem bvl_all (s : ByteArray) : bvl s s.size = vlu s.data.toList 0 := by
 unfold bvl
 rw [List.take_of_length_le (by rw [siz_len]; exact Nat.le_refl _)]
def rnb (s : ByteArray) : Int × Nat := rnm s.data.toList
theorem rnb_none {s : ByteArray} (h : s.size = 0) : rnb s = (11,0) := by
 unfold rnb rnm
 rw [if_pos (Or.inl (List.length_eq_zero_iff.1 (by rw [siz_len]; exact h)))]
theorem rnb_zero {s : ByteArray} (h1 : 1 < s.size) (h : bts s 0 = 48) : rnb s = (11,0) := by
 unfold rnb rnm
 rw [if_pos]
 refine Or.inr (Or.inr ⟨by rw [siz_len]; exact h1, ?_⟩)
 have h' : 0 < s.data.toList.length := by rw [siz_len]; omega
 unfold bts at h
 rw [List.getD_eq_getElem?_getD,List.getElem?_eq_getElem h'] at h
 rw [List.head?_eq_getElem?,List.getElem?_eq_getElem h']
 exact congrArg some (UInt8.toNat_inj.1 h)
theorem rnb_bad {s : ByteArray} {t : Nat} (ht : t < s.size) (h : bts s t < 48 ∨ 57 < bts s t) : rnb s = (11,0) := by
 unfold rnb rnm
 rw [if_pos]
 refine Or.inr (Or.inl ?_)
 have h' : t < s.data.toList.length := by rw [siz_len]; exact ht
 unfold bts at h
 rw [List.getD_eq_getElem?_getD,List.getElem?_eq_getElem h'] at h
 rw [List.all_eq_false]
 refine ⟨_,List.getElem_mem h', ?_⟩
 unfold isd
 intro e
 have := of_decide_eq_true e
 have h : (s.data.toList[t]'h').toNat < 48 ∨ 57 < (s.data.toList[t]'h').toNat := h
 omega
theorem rnb_good {s : ByteArray} (h0 : s.size ≠ 0) (h1 : ¬ (1 < s.size ∧ bts s 0 = 48)) (h : ∀ j,j < s.size → 48 ≤ bts s j ∧ bts s j ≤ 57) : rnb s = if 9999 < bvl s s.size then (4,0) else (0,bvl s s.size) := by
 unfold rnb rnm
 rw [if_neg,bvl_all]
 rintro (e | e | ⟨e1,e2⟩)
 · exact h0 (by rw [← siz_len,e]; rfl)
 · rw [List.all_eq_false] at e
   obtain ⟨x,hx,e⟩ := e
   obtain ⟨j,hj,rfl⟩ := List.mem_iff_getElem.1 hx
   have := h j (by rw [← siz_len]; exact hj)
   unfold bts at this
   rw [List.getD_eq_getElem?_getD,List.getElem?_eq_getElem hj] at this
   have this : 48 ≤ (s.data.toList[j]'hj).toNat ∧ (s.data.toList[j]'hj).toNat ≤ 57 := this
   exact e (by unfold isd; exact decide_eq_true this)
 · refine h1 ⟨by rw [← siz_len]; exact e1, ?_⟩
   have h' : 0 < s.data.toList.length := by omega
   rw [List.head?_eq_getElem?,List.getElem?_eq_getElem h'] at e2
   unfold bts
   rw [List.getD_eq_getElem?_getD,List.getElem?_eq_getElem h']
   have e3 : s.data.toList[0]'h' = 48 := Option.some.inj e2
   show (s.data.toList[0]'h').toNat = 48
   rw [e3]; rfl
end Go.Proofs.YtinmkgohganllaaGreatDoor
namespace Go.Proofs.YtinmkgohganllaaGreatDoor
open Go.RowKit Go.Sort
end Go.Proofs.YtinmkgohganllaaGreatDoor
namespace Go.Proofs.YtinmkgohganllaaGreatDoor
open Go.RowKit
theorem digitOf_any (r : Nat) (w : World) (hr : r ≤ 2147483647) :
   Calls Tryz.prog 135 #[.int .i32 (r : Nat)] w fun e w' => e = .returned (.tuple #[.int .i64 (if r < 48 ∨ 57 < r then 0 else ((r - 48 : Nat) : Int)), .bool (decide (¬ (r < 48 ∨ 57 < r)))]) ∧ w' = w := by
 by_cases h1 : r < 48
 · have i1 : (r : Int) < 48 := by omega
   rw [if_pos (Or.inl h1),decide_eq_false (fun h => h (Or.inl h1))]
   clear h1
   go_enter Tryz.func135,Tryz.ntmps135
   go_wp2
   go_ret2
   exact ⟨rfl,rfl⟩
 have i1 : ¬ (r : Int) < 48 := by omega
 by_cases h2 : 57 < r
 · have i2 : (57 : Int) < (r : Int) := by omega
   rw [if_pos (Or.inr h2),decide_eq_false (fun h => h (Or.inr h2))]
   clear h1 h2
   go_enter Tryz.func135,Tryz.ntmps135
   go_wp2
   go_ret2
   exact ⟨rfl,rfl⟩
 have i2 : ¬ (57 : Int) < (r : Int) := by omega
 rw [if_neg (by omega),decide_eq_true (by omega)]
 have wu : IntKind.i32.wrap ((r : Int) - 48) = ((r - 48 : Nat) : Int) := by
   have : ∀ r : Nat,r ≤ 57 → ¬ r < 48 → IntKind.i32.wrap ((r : Int) - 48) = ((r - 48 : Nat) : Int) := by decide +kernel
   exact this r (by omega) h1
 have wv : IntKind.i64.wrap ((r - 48 : Nat) : Int) = ((r - 48 : Nat) : Int) := by
   have : ∀ y : Nat,y ≤ 57 → IntKind.i64.wrap (y : Int) = (y : Int) := by decide +kernel
   exact this _ (by omega)
 clear h1 h2
 go_enter Tryz.func135,Tryz.ntmps135
 go_wp2
 go_ret2
 exact ⟨rfl,rfl⟩
theorem not_empty {s : ByteArray} (h : s.size ≠ 0) : s.toList.isEmpty = false := by
 rw [Lib.toList_data]
 cases hl : s.data.toList with
 | nil => exact absurd (by rw [← siz_len,hl]; rfl) h
 | cons _ _ => rfl
theorem below_iter (w : World) (s : ByteArray) (p : Nat) : Below w.heap.size w (w.iter s p) := below_grown (World.grownBy_alloc w _ none) (Nat.le_refl _) (fun k hk => by cases hk)
theorem min_sd (n d : Nat) : Value.int .i64 (if (10000 : Int) < (n : Int) * 10 + (d : Int) then 10000 else (n : Int) * 10 + (d : Int)) = Value.int .i64 ((min (n * 10 + d) 10000 : Nat) : Int) := by
 congr 1
 split <;> omega
theorem min_sd2 (n d : Nat) : Value.int .i64 (min ((n : Int) * 10 + (d : Int)) 10000) = Value.int .i64 ((min (n * 10 + d) 10000 : Nat) : Int) := by
 congr 1
 omega
theorem is_empty {s : ByteArray} (h : s.size = 0) : s.toList.isEmpty = true := by
 rw [Lib.toList_data,List.length_eq_zero_iff.1 ((siz_len s).trans h)]; rfl
set_option maxHeartbeats 4000000 in
set_option maxRecDepth 100000 in
theorem readNumber_any (s : ByteArray) (w : World) (hs : s.size ≤ 1000000) :
   Calls Tryz.prog 111 #[.string s] w fun e w' => e = .returned (.tuple #[.int .i64 ((rnb s).2 : Nat), .int .i64 (rnb s).1]) ∧ Below w.heap.size w w' := by
 by_cases h0 : s.size = 0
 · have he : s = ⟨#[]⟩ := by
     cases s with | mk d => exact congrArg ByteArray.mk (Array.size_eq_zero_iff.1 h0)
   rw [rnb_none h0]
   subst he
   clear h0
   go_enter Tryz.func111,Tryz.ntmps111
   go_wp2
   go_ret2
   exact ⟨rfl,Below.refl _ _⟩
 have hne : s.toList.isEmpty = false := not_empty h0
 have hs0 : 0 < s.size := by omega
 have hb0 := bts_at s 0 hs0
 by_cases h1 : 1 < s.size ∧ bts s 0 = 48
 · rw [rnb_zero h1.1 h1.2]
   have i1 : (1 : Int) < (s.size : Int) := by omega
   have i2 : (((s[0]'hs0).toNat : Int) == 48) = true := by rw [beq_iff_eq]; omega
   clear h1 hb0 h0
   go_enter Tryz.func111,Tryz.ntmps111
   go_wp2
   go_ret2
   exact ⟨rfl,Below.refl _ _⟩
 have HB : Hid (¬ (1 < s.size ∧ bts s 0 = 48)) := h1
 have HN : Hid (s.size ≠ 0) := h0
 by_cases hl1 : 1 < s.size
 · have i1 : (1 : Int) < (s.size : Int) := by omega
   have i2 : (((s[0]'hs0).toNat : Int) == 48) = false := by rw [beq_eq_false_iff_ne]; omega
   clear h1 hb0 h0 hl1
   go_enter Tryz.func111,Tryz.ntmps111
   go_wp2
   go_loopw [4] (fun vn wy => ∃ (t n : Nat),t ≤ s.size ∧ n ≤ 10000 ∧ vn = .int .i64 (n : Nat) ∧ wy = w.iter s t ∧ Hid (n = min (bvl s t) 10000 ∧ ∀ j,j < t → 48 ≤ bts s j ∧ bts s j ≤ 57)) (fun _ wy => s.size - wy.iterPos w.heap.size)
   case atStart => exact ⟨0,0,by omega,by omega,rfl,rfl,rfl,fun j hj => absurd hj (by omega)⟩
   case round =>
     obtain ⟨t,n,ht,hn,rfl,rfl,HG⟩ := hrel
     by_cases hlt : t < s.size
     · have hbt := bts_at s t hlt
       by_cases hd : bts s t < 48 ∨ 57 < bts s t
       · have HE : Hid (rnb s = (11,0)) := rnb_bad hlt hd
         obtain ⟨r,p,hr1,hr2,hnx⟩ : ∃ r p : Nat,r ≤ 2147483647 ∧ (r < 48 ∨ 57 < r) ∧ ∀ ty,(Instr.next (.pointer (some ⟨w.heap.size,0,none⟩)) true ty).run Tryz.prog (w.iter s t) = .ok (.tuple #[.bool true, .int .i64 (t : Nat), .int .i32 (r : Nat)]) (w.iter s p) := by
           refine ⟨(Utf8.decode s t).1,t + (Utf8.decode s t).2,decode_le s t, ?_,fun ty => run_next_any w s t ty hlt⟩
           by_cases ha : (s[t]'hlt).toNat < 128
           · rw [decode_ascii s t hlt ha]
             show (s[t]'hlt).toNat < 48 ∨ 57 < (s[t]'hlt).toNat
             omega
           · have := (decode_high s t hlt (by omega)).1
             omega
         have HR : Hid (r < 48 ∨ 57 < r) := hr2
         clear hr2 hbt hd
         go_wp2_with (go_at_call 135; refine (digitOf_any r _ hr1).mono ?_; rintro e w' ⟨rfl,rfl⟩; rw [if_pos HR.out,decide_eq_false (fun h => h HR.out)])
         go_ret2
         rw [HE.out]
         exact ⟨rfl,below_iter _ _ _⟩
       · have hnx : ∀ ty,(Instr.next (.pointer (some ⟨w.heap.size,0,none⟩)) true ty).run Tryz.prog (w.iter s t) = .ok (.tuple #[.bool true, .int .i64 (t : Nat), .int .i32 ((s[t]'hlt).toNat : Nat)]) (w.iter s (t + 1)) := fun ty => run_next_ascii w s t ty hlt (by omega)
         obtain ⟨r,hr⟩ : ∃ r : Nat,r = (s[t]'hlt).toNat := ⟨_,rfl⟩
         rw [← hr] at hnx
         have HR : Hid (¬ (r < 48 ∨ 57 < r)) := by rw [hr,hbt]; exact hd
         obtain ⟨d,hdd⟩ : ∃ d : Nat,d = r - 48 := ⟨_,rfl⟩
         have hd10 : d < 10 := by have := HR.out; omega
         have HS : Hid ((min (n * 10 + d) 10000 : Nat) = min (bvl s (t + 1)) 10000 ∧ ∀ j,j < t + 1 → 48 ≤ bts s j ∧ bts s j ≤ 57) := by
           refine ⟨?_,fun j hj => ?_⟩
           · have h1 := HG.out.1
             rw [bvl_next hlt, ← hbt, ← hr, ← hdd]
             omega
           · by_cases e : j = t
             · rw [e]; omega
             · exact HG.out.2 j (by omega)
         have hr1 : r ≤ 2147483647 := by have := HR.out; omega
         clear hbt hd hr
         go_wp2_with (go_at_call 135; refine (digitOf_any r _ hr1).mono ?_; rintro e w' ⟨rfl,rfl⟩; rw [if_neg HR.out,decide_eq_true HR.out, ← hdd])
         go_roundw
         case rel => exact ⟨t + 1,min (n * 10 + d) 10000,by omega,by omega,by rw [← hdd]; first | exact min_sd n d | exact min_sd2 n d,rfl,HS.out⟩
         case measure => simp; omega
     · have hnx : ∀ ty,(Instr.next (.pointer (some ⟨w.heap.size,0,none⟩)) true ty).run Tryz.prog (w.iter s t) = .ok (.tuple #[.bool false]) (w.iter s t) := fun ty => run_next_end w s t ty hlt
       have hte : t = s.size := by omega
       have hn2 := HG.out.1
       rw [hte] at hn2
       have HE : Hid (rnb s = if 9999 < bvl s s.size then (4,0) else (0,bvl s s.size)) := rnb_good HN.out HB.out (by rw [← hte]; exact HG.out.2)
       by_cases hb : 9999 < bvl s s.size
       · have i5 : (9999 : Int) < (n : Int) := by omega
         have HF : Hid (rnb s = (4,0)) := by rw [HE.out,if_pos hb]; rfl
         clear hn2 hb hte
         go_wp2
         go_ret2
         rw [HF.out]
         exact ⟨rfl,below_iter _ _ _⟩
       · have i5 : ¬ (9999 : Int) < (n : Int) := by omega
         have HF : Hid (rnb s = (0,n)) := by rw [HE.out,if_neg hb]; show _ = _; rw [show bvl s s.size = n by omega]
         clear hn2 hb hte
         go_wp2
         go_ret2
         refine ⟨?_,below_iter _ _ _⟩
         show _ = Ending.returned (.tuple #[.int .i64 ((rnb s).2 : Nat), .int .i64 (rnb s).1])
         rw [HF.out]
         rfl
 · have i1 : ¬ (1 : Int) < (s.size : Int) := by omega
   clear h1 hb0 h0 hl1
   go_enter Tryz.func111,Tryz.ntmps111
   go_wp2
   go_loopw [4] (fun vn wy => ∃ (t n : Nat),t ≤ s.size ∧ n ≤ 10000 ∧ vn = .int .i64 (n : Nat) ∧ wy = w.iter s t ∧ Hid (n = min (bvl s t) 10000 ∧ ∀ j,j < t → 48 ≤ bts s j ∧ bts s j ≤ 57)) (fun _ wy => s.size - wy.iterPos w.heap.size)
   case atStart => exact ⟨0,0,by omega,by omega,rfl,rfl,rfl,fun j hj => absurd hj (by omega)⟩
   case round =>
     obtain ⟨t,n,ht,hn,rfl,rfl,HG⟩ := hrel
     by_cases hlt : t < s.size
     · have hbt := bts_at s t hlt
       by_cases hd : bts s t < 48 ∨ 57 < bts s t
       · have HE : Hid (rnb s = (11,0)) := rnb_bad hlt hd
         obtain ⟨r,p,hr1,hr2,hnx⟩ : ∃ r p : Nat,r ≤ 2147483647 ∧ (r < 48 ∨ 57 < r) ∧ ∀ ty,(Instr.next (.pointer (some ⟨w.heap.size,0,none⟩)) true ty).run Tryz.prog (w.iter s t) = .ok (.tuple #[.bool true, .int .i64 (t : Nat), .int .i32 (r : Nat)]) (w.iter s p) := by
           refine ⟨(Utf8.decode s t).1,t + (Utf8.decode s t).2,decode_le s t, ?_,fun ty => run_next_any w s t ty hlt⟩
           by_cases ha : (s[t]'hlt).toNat < 128
           · rw [decode_ascii s t hlt ha]
             show (s[t]'hlt).toNat < 48 ∨ 57 < (s[t]'hlt).toNat
             omega
           · have := (decode_high s t hlt (by omega)).1
             omega
         have HR : Hid (r < 48 ∨ 57 < r) := hr2
         clear hr2 hbt hd
         go_wp2_with (go_at_call 135; refine (digitOf_any r _ hr1).mono ?_; rintro e w' ⟨rfl,rfl⟩; rw [if_pos HR.out,decide_eq_false (fun h => h HR.out)])
         go_ret2
         rw [HE.out]
         exact ⟨rfl,below_iter _ _ _⟩
       · have hnx : ∀ ty,(Instr.next (.pointer (some ⟨w.heap.size,0,none⟩)) true ty).run Tryz.prog (w.iter s t) = .ok (.tuple #[.bool true, .int .i64 (t : Nat), .int .i32 ((s[t]'hlt).toNat : Nat)]) (w.iter s (t + 1)) := fun ty => run_next_ascii w s t ty hlt (by omega)
         obtain ⟨r,hr⟩ : ∃ r : Nat,r = (s[t]'hlt).toNat := ⟨_,rfl⟩
         rw [← hr] at hnx
         have HR : Hid (¬ (r < 48 ∨ 57 < r)) := by rw [hr,hbt]; exact hd
         obtain ⟨d,hdd⟩ : ∃ d : Nat,d = r - 48 := ⟨_,rfl⟩
         have hd10 : d < 10 := by have := HR.out; omega
         have HS : Hid ((min (n * 10 + d) 10000 : Nat) = min (bvl s (t + 1)) 10000 ∧ ∀ j,j < t + 1 → 48 ≤ bts s j ∧ bts s j ≤ 57) := by
           refine ⟨?_,fun j hj => ?_⟩
           · have h1 := HG.out.1
             rw [bvl_next hlt, ← hbt, ← hr, ← hdd]
             omega
           · by_cases e : j = t
             · rw [e]; omega
             · exact HG.out.2 j (by omega)
         have hr1 : r ≤ 2147483647 := by have := HR.out; omega
         clear hbt hd hr
         go_wp2_with (go_at_call 135; refine (digitOf_any r _ hr1).mono ?_; rintro e w' ⟨rfl,rfl⟩; rw [if_neg HR.out,decide_eq_true HR.out, ← hdd])
         go_roundw
         case rel => exact ⟨t + 1,min (n * 10 + d) 10000,by omega,by omega,by rw [← hdd]; first | exact min_sd n d | exact min_sd2 n d,rfl,HS.out⟩
         case measure => simp; omega
     · have hnx : ∀ ty,(Instr.next (.pointer (some ⟨w.heap.size,0,none⟩)) true ty).run Tryz.prog (w.iter s t) = .ok (.tuple #[.bool false]) (w.iter s t) := fun ty => run_next_end w s t ty hlt
       have hte : t = s.size := by omega
       have hn2 := HG.out.1
       rw [hte] at hn2
       have HE : Hid (rnb s = if 9999 < bvl s s.size then (4,0) else (0,bvl s s.size)) := rnb_good HN.out HB.out (by rw [← hte]; exact HG.out.2)
       by_cases hb : 9999 < bvl s s.size
       · have i5 : (9999 : Int) < (n : Int) := by omega
         have HF : Hid (rnb s = (4,0)) := by rw [HE.out,if_pos hb]; rfl
         clear hn2 hb hte
         go_wp2
         go_ret2
         rw [HF.out]
         exact ⟨rfl,below_iter _ _ _⟩
       · have i5 : ¬ (9999 : Int) < (n : Int) := by omega
         have HF : Hid (rnb s = (0,n)) := by rw [HE.out,if_neg hb]; show _ = _; rw [show bvl s s.size = n by omega]
         clear hn2 hb hte
         go_wp2
         go_ret2
         refine ⟨?_,below_iter _ _ _⟩
         show _ = Ending.returned (.tuple #[.int .i64 ((rnb s).2 : Nat), .int .i64 (rnb s).1])
         rw [HF.out]
         rfl
end Go.Proofs.YtinmkgohganllaaGreatDoor
namespace Go.Proofs.YtinmkgohganllaaGreatDoor
open Go.Shelf
def lay102_ren : Go.Shelf.Ren := ⟨fun | 102 => 78 | 209 => 110 | 207 => 134 | n => n,fun | 9 => 9 | 4 => 4 | 3 => 3 | n => n,fun | n => n⟩
theorem lay102 : Go.Proofs.Lays.n102 Tryz.prog lay102_ren := {
 mixed := by kernel_rfl
 f102 := Tryz.func78.trans (congrArg some (by kernel_rfl))
 f207 := Tryz.func134.trans (congrArg some (by kernel_rfl))
 f209 := Tryz.func110.trans (congrArg some (by kernel_rfl))
 t3 := Tryz.underlying3
 a3 := Tryz.isAgg3
 z3 := Tryz.sizeOf3
 v3 := Tryz.zeroValue3
 t4 := Tryz.underlying4
 a4 := Tryz.isAgg4
 z4 := Tryz.sizeOf4
 v4 := Tryz.zeroValue4
 t9 := Tryz.underlying9
 a9 := Tryz.isAgg9
 z9 := Tryz.sizeOf9
 v9 := Tryz.zeroValue9 }
def lay146_ren : Go.Shelf.Ren := ⟨fun | 146 => 77 | 221 => 109 | 268 => 131 | 138 => 132 | 143 => 133 | 195 => 148 | 197 => 149 | 218 => 150 | 219 => 151 | 260 => 160 | 217 => 161 | 225 => 162 | 224 => 163 | 267 => 164 | 266 => 171 | 314 => 172 | n => n,fun | 9 => 9 | 31 => 107 | 3 => 3 | 4 => 4 | 0 => 0 | 105 => 159 | 21 => 21 | 5 => 5 | 46 => 170 | 119 => 176 | 139 => 179 | 138 => 178 | 146 => 180 | 51 => 173 | n => n,fun | 1 => 0 | 3 => 2 | 4 => 3 | n => n⟩
theorem lay146 : Go.Proofs.Lays.n146 Tryz.prog lay146_ren := {
 mixed := by kernel_rfl
 f138 := Tryz.func132.trans (congrArg some (by kernel_rfl))
 f143 := Tryz.func133.trans (congrArg some (by kernel_rfl))
 f146 := Tryz.func77.trans (congrArg some (by kernel_rfl))
 f195 := Tryz.func148.trans (congrArg some (by kernel_rfl))
 f197 := Tryz.func149.trans (congrArg some (by kernel_rfl))
 f217 := Tryz.func161.trans (congrArg some (by kernel_rfl))
 f218 := Tryz.func150.trans (congrArg some (by kernel_rfl))
 f219 := Tryz.func151.trans (congrArg some (by kernel_rfl))
 f221 := Tryz.func109.trans (congrArg some (by kernel_rfl))
 f224 := Tryz.func163.trans (congrArg some (by kernel_rfl))
 f225 := Tryz.func162.trans (congrArg some (by kernel_rfl))
 f260 := Tryz.func160.trans (congrArg some (by kernel_rfl))
 f266 := Tryz.func171.trans (congrArg some (by kernel_rfl))
 f267 := Tryz.func164.trans (congrArg some (by kernel_rfl))
 f268 := Tryz.func131.trans (congrArg some (by kernel_rfl))
 f314 := Tryz.func172.trans (congrArg some (by kernel_rfl))
 t0 := Tryz.underlying0
 a0 := Tryz.isAgg0
 z0 := Tryz.sizeOf0
 v0 := Tryz.zeroValue0
 t3 := Tryz.underlying3
 a3 := Tryz.isAgg3
 z3 := Tryz.sizeOf3
 v3 := Tryz.zeroValue3
 t4 := Tryz.underlying4
 a4 := Tryz.isAgg4
 z4 := Tryz.sizeOf4
 v4 := Tryz.zeroValue4
 t5 := Tryz.underlying5
 a5 := Tryz.isAgg5
 z5 := Tryz.sizeOf5
 v5 := Tryz.zeroValue5
 t9 := Tryz.underlying9
 a9 := Tryz.isAgg9
 z9 := Tryz.sizeOf9
 v9 := Tryz.zeroValue9
 t21 := Tryz.underlying21
 a21 := Tryz.isAgg21
 z21 := Tryz.sizeOf21
 v21 := Tryz.zeroValue21
 t31 := Tryz.underlying107
 a31 := Tryz.isAgg107
 z31 := Tryz.sizeOf107
 v31 := Tryz.zeroValue107
 t46 := Tryz.underlying170
 a46 := Tryz.isAgg170
 z46 := Tryz.sizeOf170
 v46 := Tryz.zeroValue170
 t51 := Tryz.underlying173
 a51 := Tryz.isAgg173
 z51 := Tryz.sizeOf173
 v51 := Tryz.zeroValue173
 t105 := Tryz.underlying159
 a105 := Tryz.isAgg159
 z105 := Tryz.sizeOf159
 v105 := Tryz.zeroValue159
 t119 := Tryz.underlying176
 a119 := Tryz.isAgg176
 z119 := Tryz.sizeOf176
 t138 := Tryz.underlying178
 a138 := Tryz.isAgg178
 z138 := Tryz.sizeOf178
 v138 := Tryz.zeroValue178
 t139 := Tryz.underlying179
 a139 := Tryz.isAgg179
 z139 := Tryz.sizeOf179
 v139 := Tryz.zeroValue179
 t146 := Tryz.underlying180
 a146 := Tryz.isAgg180
 z146 := Tryz.sizeOf180
 v146 := Tryz.zeroValue180
 g1 := by kernel_rfl
 g3 := by kernel_rfl
 g4 := by kernel_rfl }
def mxl : Nat := lay146_ren.g 1
theorem trimS (s p : ByteArray) (w : World) (hs : s.size ≤ 9223372036854775807) :
   Calls Tryz.prog 78 #[.string s, .string p] w fun e w' => e = .returned (.string ⟨(Lib.trimSuffix s.data.toList p.data.toList).toArray⟩) ∧ w' = w := Any.strings_TrimSuffix lay102 s p w hs
theorem splitS (s sep : ByteArray) (m : Int) (w : World) (hs : s.size < 4294967281) (hm : w.cell? ⟨mxl,0,none⟩ = some (.int .i64 m)) (h1 : 1 ≤ sep.size) :
   Calls Tryz.prog 77 #[.string s, .string sep] w fun e w' =>
     e = .returned (.slice (some ⟨w.heap.size,0,none⟩) (Lib.countB s sep + 1) (Lib.countB s sep + 1)) ∧ w' = w.alloc (.cells ((Lib.splitB sep 0 (Lib.countB s sep) s).map Value.string).toArray 9) := Any.strings_Split lay146 (by kernel_rfl) s sep m w hs hm h1
end Go.Proofs.YtinmkgohganllaaGreatDoor
namespace Go.Proofs.YtinmkgohganllaaGreatDoor
open Go.RowKit
def pcN (c : UInt8) (s : ByteArray) : Nat := (spl c s.data.toList).length
def pcS (c : UInt8) (s : ByteArray) (k : Nat) : ByteArray := ⟨((spl c s.data.toList).getD k []).toArray⟩
def SR (g m : Nat) (S : Nat → ByteArray) (w : World) : Prop := ∀ k,k < m → w.cell? ⟨g,k,none⟩ = some (.string (S k))
theorem SR.lt {g m : Nat} {S : Nat → ByteArray} {w : World} (h : SR g m S w) (hm : 0 < m) : g < w.heap.size := World.block_lt_of_cell? _ _ (h 0 hm)
theorem SR.kept {B g m : Nat} {S : Nat → ByteArray} {w w' : World} (h : SR g m S w) (hb : Below B w w') (hg : g < B) : SR g m S w' := fun k hk => (hb.cell (p := ⟨g,k,none⟩) hg).trans (h k hk)
theorem pcN_pos (c : UInt8) (s : ByteArray) : 0 < pcN c s := by
 obtain ⟨p,ps,e⟩ := spl_cons c s.data.toList
 unfold pcN
 rw [e]; simp
theorem spl_len (c : UInt8) : ∀ s,(spl c s).length ≤ s.length + 1
 | [] => Nat.le_refl _
 | x :: xs => by
   have ih := spl_len c xs
   obtain ⟨p,ps,e⟩ := spl_cons c xs
   by_cases h : x = c
   · subst h
     rw [spl_at,List.length_cons,List.length_cons]
     omega
   · rw [spl_on h e]
     rw [e,List.length_cons] at ih
     rw [List.length_cons,List.length_cons]
     omega
theorem pcN_le (c : UInt8) (s : ByteArray) : pcN c s ≤ s.size + 1 := by
 have := spl_len c s.data.toList
 rw [siz_len] at this
 exact this
theorem spl_piece (c : UInt8) : ∀ s k,((spl c s).getD k []).length ≤ s.length
 | [],k => by
   cases k with
   | zero => exact Nat.le_refl _
   | succ k => exact Nat.le_refl _
 | x :: xs,k => by
   obtain ⟨p,ps,e⟩ := spl_cons c xs
   have ih := spl_piece c xs
   rw [e] at ih
   by_cases h : x = c
   · subst h
     rw [spl_at,e]
     cases k with
     | zero => exact Nat.zero_le _
     | succ k => exact Nat.le_trans (ih k) (Nat.le_succ _)
   · rw [spl_on h e]
     cases k with
     | zero => have := ih 0; simp at this ⊢; omega
     | succ k => exact Nat.le_trans (ih (k + 1)) (Nat.le_succ _)
theorem pcS_le (c : UInt8) (s : ByteArray) (k : Nat) : (pcS c s k).size ≤ s.size := by
 have := spl_piece c s.data.toList k
 rw [siz_len] at this
 show ((spl c s.data.toList).getD k []).toArray.size ≤ _
 rw [List.size_toArray]; exact this
theorem splitB_spl (c : UInt8) (s : ByteArray) : Lib.splitB ⟨#[c]⟩ 0 (Lib.countB s ⟨#[c]⟩) s = (spl c s.data.toList).map fun l => ⟨l.toArray⟩ := by
 have h := Lib.splitB_data ⟨#[c]⟩ 0 (Lib.countB s ⟨#[c]⟩) s
 have hc : Lib.countB s ⟨#[c]⟩ = s.data.toList.count c := Lib.count_one c _
 rw [hc] at h ⊢
 have h2 : Lib.splitK [c] 0 (s.data.toList.count c) s.data.toList = spl c s.data.toList := splitK_spl c _ _ (Nat.le_refl _)
 have h3 : ((Lib.splitB ⟨#[c]⟩ 0 (s.data.toList.count c) s).map (·.data.toList)) = spl c s.data.toList := h.trans h2
 rw [← h3,List.map_map]
 conv => lhs; rw [← List.map_id (Lib.splitB ⟨#[c]⟩ 0 (s.data.toList.count c) s)]
 apply List.map_congr_left
 intro b _
 cases b with | mk d => simp
theorem split_any (c : UInt8) (s : ByteArray) (m : Int) (w : World) (hs : s.size ≤ 5000) (hm : w.cell? ⟨mxl,0,none⟩ = some (.int .i64 m)) :
   Calls Tryz.prog 77 #[.string s, .string ⟨#[c]⟩] w fun e w' => e = .returned (.slice (some ⟨w.heap.size,0,none⟩) (pcN c s) (pcN c s)) ∧ SR w.heap.size (pcN c s) (pcS c s) w' ∧ Below w.heap.size w w' ∧ w'.heap.size = w.heap.size + 1 := by
 refine (splitS s ⟨#[c]⟩ m w (by omega) hm (Nat.le_refl 1)).mono ?_
 rintro e w' ⟨rfl,rfl⟩
 have hl : Lib.countB s ⟨#[c]⟩ + 1 = pcN c s := by
   rw [← Lib.splitB_all ⟨#[c]⟩ (Nat.le_refl 1) 0 _ s rfl,splitB_spl,List.length_map]; rfl
 rw [hl,splitB_spl]
 refine ⟨rfl,fun k hk => ?_,below_grown (World.grownBy_alloc w _ none) (Nat.le_refl _) (fun k hk => by cases hk),by simp⟩
 have hnew : ∀ o : Obj,(w.alloc o).heap[w.heap.size]? = some o := fun o => by
   show (w.heap.push o)[w.heap.size]? = some o
   rw [Array.getElem?_push_size]
 rw [cell_of_row _ w.heap.size k _ 9 (0,0) (hnew _)]
 unfold pcN at hk
 unfold pcS
 rw [List.getElem?_toArray,List.getElem?_map,List.getElem?_map,List.getElem?_eq_getElem hk,List.getD_eq_getElem?_getD,List.getElem?_eq_getElem hk]
 rfl
def lne (s : ByteArray) : Int := fer (fun k => (rnb (pcS 32 s k)).1) (pcN 32 s)
def lnz (s : ByteArray) (k : Nat) : Int := ((rnb (pcS 32 s k)).2 : Nat)
def RlP (s : ByteArray) (w : World) (e : Ending) (w' : World) : Prop :=
 (lne s ≠ 0 ∧ e = .returned (.tuple #[.slice none 0 0, .int .i64 (lne s)])) ∨ (lne s = 0 ∧ ∃ v,e = .returned (.tuple #[v, .int .i64 0]) ∧ OwnI w.heap.size v (zl (pcN 32 s) (lnz s)) w')
theorem readNumber_at {s : ByteArray} {w : World} {e0 : Int} {y : Nat} (hs : s.size ≤ 1000000) (h : rnb s = (e0,y)) :
   Calls Tryz.prog 111 #[.string s] w fun e w' => e = .returned (.tuple #[.int .i64 (y : Nat), .int .i64 e0]) ∧ Below w.heap.size w w' := by
 have := readNumber_any s w hs
 rw [h] at this
 exact this
theorem split_at {c : UInt8} {s : ByteArray} {m : Int} {w : World} {n : Nat} {S : Nat → ByteArray} (hs : s.size ≤ 5000) (hm : w.cell? ⟨mxl,0,none⟩ = some (.int .i64 m)) (hn : n = pcN c s) (hS : S = pcS c s) :
   Calls Tryz.prog 77 #[.string s, .string ⟨#[c]⟩] w fun e w' => e = .returned (.slice (some ⟨w.heap.size,0,none⟩) n n) ∧ SR w.heap.size n S w' ∧ Below w.heap.size w w' ∧ w'.heap.size = w.heap.size + 1 := by
 rw [hn,hS]; exact split_any c s m w hs hm
set_option maxHeartbeats 4000000 in
set_option maxRecDepth 100000 in
theorem readLine_any (s : ByteArray) (m : Int) (w : World) (hs : s.size ≤ 5000) (hm : w.cell? ⟨mxl,0,none⟩ = some (.int .i64 m)) :
   Calls Tryz.prog 79 #[.string s] w fun e w' => RlP s w e w' ∧ Below w.heap.size w w' := by
 have HM : Hid (w.cell? ⟨mxl,0,none⟩ = some (.int .i64 m)) := hm
 clear hm
 obtain ⟨n,hn⟩ : ∃ n,n = pcN 32 s := ⟨_,rfl⟩
 have HP : Hid (n = pcN 32 s ∧ 0 < n) := ⟨hn,by rw [hn]; exact pcN_pos _ _⟩
 have hn1 : n ≤ 5001 := by have := pcN_le 32 s; omega
 obtain ⟨S,hS⟩ : ∃ S,S = pcS 32 s := ⟨_,rfl⟩
 have HS : Hid (S = pcS 32 s) := hS
 clear hn hS
 go_enter Tryz.func79,Tryz.ntmps79
 go_wp2_with (go_at_call 77; refine (split_at hs HM.out HP.out.1 HS.out).mono ?_; rintro e w1 ⟨rfl,hsr,hb1,hsz⟩)
 obtain ⟨g,hg⟩ : ∃ g,g = w.heap.size := ⟨_,rfl⟩
 rw [← hg] at hsr hsz
 try rw [← hg]
 have H1 : Hid (SR g n S w1 ∧ Below w.heap.size w w1 ∧ w1.heap.size = g + 1 ∧ g = w.heap.size) := ⟨hsr,hb1,hsz,hg⟩
 clear hsr hb1 hsz hg
 go_loopw [4,12] (fun v vi wr => ∃ (t : Nat),t ≤ n ∧ vi = .int .i64 (t : Nat) ∧ Hid (OwnI (g + 1) v (zl t (lnz s)) wr ∧ SR g n S wr ∧ Below (g + 1) w1 wr ∧ fer (fun k => (rnb (S k)).1) t = 0)) (fun _ vi _ => n - (intOf vi).toNat)
 case atStart => exact ⟨0,by omega,rfl,OwnI.nil _ _,H1.out.1,Below.refl _ _,rfl⟩
 case round =>
   obtain ⟨t,ht,rfl,HG⟩ := hrel
   rename World => wr
   by_cases hlt : t < n
   · have hib : (t : Int) < (n : Int) := by omega
     have hib0 : (0 : Int) ≤ (t : Int) := by omega
     have hcell := HG.out.2.1 t hlt
     obtain ⟨x,hx⟩ : ∃ x,x = S t := ⟨_,rfl⟩
     rw [← hx] at hcell
     have hxs : x.size ≤ 1000000 := by rw [hx,HS.out]; have := pcS_le 32 s t; omega
     have HX0 : Hid (x = S t) := hx
     clear hx
     obtain ⟨e0,y,HR⟩ : ∃ e0 y,Hid (rnb x = (e0,y)) := ⟨_,_,rfl⟩
     have HX : Hid (e0 = (rnb (S t)).1 ∧ (y : Int) = lnz s t) := by
       have h := HR.out
       rw [HX0.out] at h
       refine ⟨by rw [h], ?_⟩
       unfold lnz
       rw [← HS.out,h]
     by_cases h0 : e0 = 0
     · have i0 : (e0 != 0) = false := by rw [h0]; rfl
       have HF : Hid (fer (fun k => (rnb (S k)).1) (t + 1) = 0) := by
         show fer _ _ = _
         rw [fer_next HG.out.2.2.2, ← HX.out.1]; exact h0
       have hbs := HG.out.2.2.1.size
       have hsz1 := H1.out.2.2.1
       clear h0
       go_wp2_with first
         | (go_at_call 111; refine (readNumber_at hxs HR.out).mono ?_; rintro e w2 ⟨rfl,hb2⟩; have hs2 := hb2.size; have ho2 := HG.out.1.below hb2 (fun k hk => (HG.out.1.lt k hk).2))
         | (at_builtin; refine append_int rfl _ _ rfl (g + 1) _ (zl t (lnz s)) rfl (ho2.alloc _) ⟨_,0,none⟩ 1 (y : Int) rfl (by simp) (by rw [zl_len]; omega) (by simp; omega) ?_; intro v3 w3 hown3 hgrow3)
       have HY : Hid (OwnI (g + 1) v3 (zl (t + 1) (lnz s)) w3 ∧ SR g n S w3 ∧ Below (g + 1) w1 w3 ∧ fer (fun k => (rnb (S k)).1) (t + 1) = 0) := by
         have hb3 : Below (g + 1) wr w3 := ((hb2.mono (by omega)).alloc (by omega) _).grown hgrow3 (by simp; omega) (fun k hk => (HG.out.1.lt k hk).1)
         refine ⟨?_,HG.out.2.1.kept hb3 (by omega),HG.out.2.2.1.trans hb3,HF.out⟩
         rw [zl_succ, ← HX.out.2]; exact hown3
       clear hown3 hgrow3 hb2 hs2 ho2 hbs hsz1
       go_roundw
       case rel => exact ⟨t + 1,by omega,by go_num,HY.out⟩
       case measure => simp [intOf]; omega
     · have i0 : (e0 != 0) = true := by rw [bne_iff_ne]; exact h0
       have HF : Hid (lne s = e0 ∧ e0 ≠ 0) := by
         refine ⟨?_,h0⟩
         have h1 : fer (fun k => (rnb (S k)).1) (t + 1) = e0 := by rw [fer_next HG.out.2.2.2, ← HX.out.1]
         unfold lne
         rw [← HS.out, ← HP.out.1,fer_stay (i := t + 1) (by rw [h1]; exact h0) n (by omega),h1]
       have hbs := HG.out.2.2.1.size
       have hsz1 := H1.out.2.2.1
       clear h0
       go_wp2_with (go_at_call 111; refine (readNumber_at hxs HR.out).mono ?_; rintro e w2 ⟨rfl,hb2⟩)
       go_ret2
       refine ⟨Or.inl ⟨by rw [HF.out.1]; exact HF.out.2,by rw [HF.out.1]; rfl⟩, ?_⟩
       have h4 := H1.out.2.2.2
       exact H1.out.2.1.trans ((HG.out.2.2.1.trans (hb2.mono (by omega))).mono (by omega))
   · have hib : ¬ (t : Int) < (n : Int) := by omega
     have hte : t = n := by omega
     have h4 := H1.out.2.2.2
     have HD : Hid (lne s = 0 ∧ OwnI w.heap.size u4 (zl (pcN 32 s) (lnz s)) wr) := by
       refine ⟨?_, ?_⟩
       · unfold lne
         rw [← HS.out, ← HP.out.1, ← hte]; exact HG.out.2.2.2
       · rw [← HP.out.1, ← hte]; exact HG.out.1.mono (by omega)
     clear hte
     go_wp2
     go_ret2
     exact ⟨Or.inr ⟨HD.out.1,_,rfl,HD.out.2⟩,H1.out.2.1.trans (HG.out.2.2.1.mono (by omega))⟩
theorem Tryz.infoStr : (Tryz.prog.info? 9).map (fun i => (i.zero,i.size,i.bytes)) = some (some (.string ByteArray.empty),1,16) := by kernel_rfl
def tob (l : List UInt8) : ByteArray := ⟨l.toArray⟩
def trm (s : ByteArray) : ByteArray := ⟨(Go.Lib.trimSuffix s.data.toList [10]).toArray⟩
def lcN (s : ByteArray) : Nat := if s.size = 0 then 0 else pcN 10 (trm s)
def lcS (s : ByteArray) (k : Nat) : ByteArray := pcS 10 (trm s) k
theorem trm_le (s : ByteArray) : (trm s).size ≤ s.size := by
 unfold trm
 show (Go.Lib.trimSuffix s.data.toList [10]).toArray.size ≤ _
 rw [List.size_toArray]
 unfold Go.Lib.trimSuffix
 split
 · rw [List.length_take,siz_len]; omega
 · rw [siz_len]; exact Nat.le_refl _
theorem lcN_le (s : ByteArray) : lcN s ≤ s.size + 1 := by
 unfold lcN
 split
 · omega
 · have := pcN_le 10 (trm s)
   have := trm_le s
   omega
theorem lcS_le (s : ByteArray) (k : Nat) : (lcS s k).size ≤ s.size := Nat.le_trans (pcS_le 10 (trm s) k) (trm_le s)
theorem pcS_last {c : UInt8} {s : ByteArray} {L : List (List UInt8)} {p : List UInt8} (h : spl c s.data.toList = L ++ [p]) : pcN c s = L.length + 1 ∧ (pcS c s (pcN c s - 1)) = ⟨p.toArray⟩ ∧ ∀ k,k < L.length → pcS c s k = ⟨(L.getD k []).toArray⟩ := by
 have h1 : pcN c s = L.length + 1 := by unfold pcN; rw [h]; simp
 refine ⟨h1, ?_,fun k hk => ?_⟩
 · rw [h1]
   unfold pcS
   rw [h]
   simp [List.getD_eq_getElem?_getD]
 · unfold pcS
   rw [h,List.getD_eq_getElem?_getD,List.getElem?_append_left hk,List.getD_eq_getElem?_getD]
theorem lines_last (s : ByteArray) : ((pcS 10 s (pcN 10 s - 1)).size = 0 → lcN s = pcN 10 s - 1 ∧ ∀ k,k < lcN s → lcS s k = pcS 10 s k) ∧ ((pcS 10 s (pcN 10 s - 1)).size ≠ 0 → lcN s = pcN 10 s ∧ ∀ k,k < lcN s → lcS s k = pcS 10 s k) := by
 by_cases hs : s.size = 0
 · have hl : s.data.toList = [] := List.length_eq_zero_iff.1 ((siz_len s).trans hs)
   have h0 : lcN s = 0 := if_pos hs
   have h := pcS_last (c := 10) (s := s) (L := []) (p := []) (by rw [hl]; rfl)
   refine ⟨fun _ => ⟨by rw [h0,h.1]; rfl,fun k hk => by omega⟩,fun hc => absurd (by rw [h.2.1]; rfl) hc⟩
 · have hl : s.data.toList ≠ [] := fun e => hs (by rw [← siz_len,e]; rfl)
   have h0 : lcN s = pcN 10 (trm s) := if_neg hs
   rcases lines_eq hl with ⟨t,e1,e2,e3⟩ | ⟨e1,L,p,e2,hp⟩
   · have ht : (trm s).data.toList = t := by unfold trm; rw [e2]
     have h := pcS_last (c := 10) (s := s) e3
     have hN : pcN 10 (trm s) = (spl 10 t).length := by unfold pcN; rw [ht]
     refine ⟨fun _ => ⟨by rw [h0,h.1,hN]; rfl,fun k hk => ?_⟩,fun hc => absurd (by rw [h.2.1]; rfl) hc⟩
     rw [h0,hN] at hk
     rw [h.2.2 k hk]
     unfold lcS pcS
     rw [ht]
   · have ht : trm s = s := by unfold trm; rw [e1]
     have h := pcS_last (c := 10) (s := s) e2
     refine ⟨fun hc => ?_,fun _ => ⟨by rw [h0,ht],fun k _ => by unfold lcS; rw [ht]⟩⟩
     rw [h.2.1] at hc
     have hc : p.toArray.size = 0 := hc
     rw [List.size_toArray] at hc
     exact absurd (List.length_eq_zero_iff.1 hc) hp
end Go.Proofs.YtinmkgohganllaaGreatDoor
