/- Texts of ours, one behind the other: U5 U6 U7 U8 U9 U10 U11 U12 U13 U14 U15 U16 U17 V1 V2 V3 W5 V4 V5. -/
import Derived.Test.YtinmkgohganllaaGreatDoorZR13
import Derived.Lib.SliceRun
import Derived.Lib.QuietBelow
namespace Go.Proofs.YtinmkgohganllaaGreatDoor
open Go.RowKit
theorem own_empty {base g : Nat} {w : World} (h : w.heap[g]? = some (.cells #[] 3 (0,0))) (hb : base ≤ g) : OwnI base (.slice (some ⟨g,0,none⟩) 0 0) [] w :=
 ⟨rfl,Or.inr ⟨g,0, #[],rfl,hb,h,Nat.le_refl _,by unfold maxLen; omega,rfl,rfl⟩⟩
set_option maxHeartbeats 1000000 in
set_option maxRecDepth 100000 in
theorem copy_any {ao : Option Addr} {n cap : Nat} {c : Nat → Nat} {w : World} (h : Sl ao n c w) (hn : n ≤ 1000000) (hnil : ao = none → cap = 0) (hl : LtB ao w.heap.size) :
   Calls Tryz.prog 65 #[.slice ao n cap] w fun e w' => ∃ v,e = .returned v ∧ OwnP w.heap.size v n c w' ∧ Below w.heap.size w w' := by
 have HS : Hid (Sl ao n c w ∧ (ao = none → cap = 0) ∧ LtB ao w.heap.size) := ⟨h,hnil,hl⟩
 clear h hnil hl
 go_enter Tryz.func65,Tryz.ntmps65
 go_wp2_with (at_builtin; refine append_list rfl _ _ rfl w.heap.size _ rfl (own_empty (two_new _) (Nat.le_refl _)) ao n cap c rfl (HS.out.1.below ((Below.refl _ _).alloc (Nat.le_refl _) _) HS.out.2.2) HS.out.2.1 hn (by simp) ?_; intro v' w' hown hgrow)
 go_ret
 exact ⟨_,rfl,hown,((Below.refl _ _).alloc (Nat.le_refl _) _).grown hgrow (by simp) (by intro k hk; have hk : some w.heap.size = some k := hk; cases hk; exact Nat.le_refl _)⟩
set_option maxHeartbeats 1000000 in
set_option maxRecDepth 100000 in
theorem clone_any {ao : Option Addr} {n cap : Nat} {c : Nat → Nat} {w : World} (h : Sl ao n c w) (hn : n ≤ 1000000) (hnil : ao = none → cap = 0) (hl : LtB ao w.heap.size) :
   Calls Tryz.prog 97 #[.slice ao n cap] w fun e w' => ∃ v,e = .returned v ∧ OwnP w.heap.size v n c w' ∧ Below w.heap.size w w' := by
 have HS : Hid (Sl ao n c w ∧ (ao = none → cap = 0) ∧ LtB ao w.heap.size) := ⟨h,hnil,hl⟩
 clear h hnil hl
 cases ao with
 | none =>
   have h0 : n = 0 := by
     rcases Nat.eq_zero_or_pos n with e | e
     · exact e
     · obtain ⟨b,off,h1,_⟩ := HS.out.1 0 e
       cases h1
   subst h0
   have hrn : ∀ w1 : World,Sem.run Tryz.prog (binOp BinOp.eql 22 (Value.slice none 0 cap) (Value.slice none 0 0)) w1 = .ok (.bool true) w1 := fun w1 => Lib.run_eql_slice_nil w1 _ 3 none 0 cap 0 0 Tryz.underlying22
   go_enter Tryz.func97,Tryz.ntmps97
   go_wp2
   go_ret
   exact ⟨_,rfl,⟨none,0,rfl,Nat.le_refl _,by omega,fun x hx => (by cases hx),fun x hx => (by cases hx),fun _ => rfl,fun h0 => absurd h0 (by omega)⟩,Below.refl _ _⟩
 | some ad =>
   have hrn : ∀ w1 : World,Sem.run Tryz.prog (binOp BinOp.eql 22 (Value.slice (some ad) n cap) (Value.slice none 0 0)) w1 = .ok (.bool false) w1 := fun w1 => Lib.run_eql_slice_nil w1 _ 3 (some ad) n cap 0 0 Tryz.underlying22
   go_enter Tryz.func97,Tryz.ntmps97
   go_wp2_with (at_builtin; refine append_list rfl _ _ rfl w.heap.size _ rfl (own_empty (two_new _) (Nat.le_refl _)) (some ad) n cap c rfl (HS.out.1.below ((Below.refl _ _).alloc (Nat.le_refl _) _) HS.out.2.2) HS.out.2.1 hn (by simp) ?_; intro v' w' hown hgrow)
   go_ret
   exact ⟨_,rfl,hown,((Below.refl _ _).alloc (Nat.le_refl _) _).grown hgrow (by simp) (by intro k hk; have hk : some w.heap.size = some k := hk; cases hk; exact Nat.le_refl _)⟩
theorem inv_nat' {F T : Nat} {D : FD} (hD : D ∈ fieldsL) {g : Nat → Value} {w : World} (h : FAt F T D g w) {x : Nat} (hx : x < D.q) (h0 : x ≠ 0) :
   Calls Tryz.prog 152 #[.pointer (some ⟨F,0,none⟩), .int .i64 x] w fun e w' => e = .returned (.int .i64 (D.iv x : Nat)) ∧ ∃ n,w' = w.drewN n := by
 have k := inv_any hD h x
 rw [inv_nat hD hx h0] at k
 exact k
theorem subZ_nat {D : FD} (F : Fld D) {a b : Nat} (ha : a < D.q) (hb : b < D.q) : D.subZ a b = (D.sb a b : Nat) := by
 rw [FD.subZ,FD.negZ,if_pos (nat_has hb),Int.toNat_natCast,addZ_nat F ha (F.neg_lt b hb)]; rfl
theorem OwnP.setOther {base n : Nat} {v : Value} {c : Nat → Nat} {w : World} (h : OwnP base v n c w) (a : Addr) (ha : ∀ g,v.ownBlock = some g → g ≠ a.block) (u : Value) : OwnP base v n c (w.setCell a u) := by
 obtain ⟨ao,cap,rfl,h1,h2,hg,hl,hz,hr⟩ := h
 refine ⟨ao,cap,rfl,h1,h2,hg,fun x hx => by simpa [World.setCell] using hl x hx,hz,fun h0 => ?_⟩
 obtain ⟨g,rfl,hrow⟩ := hr h0
 exact ⟨g,rfl,hrow.other (Below.heap_setCell _ _ _ _ (ha g rfl))⟩
theorem OwnP.store {base n cap g : Nat} {c d : Nat → Nat} {w : World} (h : OwnP base (.slice (some ⟨g,0,none⟩) n cap) n c w) (k u : Nat) (h0 : 0 < n) (hd : ∀ j,j < n → d j = if j = k then u else c j) :
   OwnP base (.slice (some ⟨g,0,none⟩) n cap) n d (w.setCell ⟨g,k,none⟩ (.int .i64 (u : Nat))) := by
 obtain ⟨ao,cap',hv,h1,h2,hg,hl,hz,hr⟩ := h
 simp only [Value.slice.injEq,true_and] at hv
 obtain ⟨rfl,rfl⟩ := hv
 obtain ⟨g',e,hrow⟩ := hr h0
 cases e
 exact ⟨_,cap,rfl,h1,h2,hg,fun x hx => by simpa [World.setCell] using hl x hx,fun e => (by cases e),fun _ => ⟨g,rfl,hrow.store k u hd⟩⟩
theorem OwnP.row {base n cap : Nat} {ao : Option Addr} {c : Nat → Nat} {w : World} (h : OwnP base (.slice ao n cap) n c w) (h0 : 0 < n) : ∃ g,ao = some ⟨g,0,none⟩ ∧ base ≤ g ∧ g < w.heap.size ∧ Row g n c w := by
 obtain ⟨ao',cap',hv,h1,h2,hg,hl,hz,hr⟩ := h
 simp only [Value.slice.injEq,true_and] at hv
 obtain ⟨rfl,rfl⟩ := hv
 obtain ⟨g,rfl,hrow⟩ := hr h0
 exact ⟨g,rfl,hg _ rfl,hl _ rfl,hrow⟩
def SlZ (ao : Option Addr) (n : Nat) (z : Nat → Int) (w : World) : Prop := ∀ j,j < n → ∃ b off,ao = some ⟨b,off,none⟩ ∧ w.cell? ⟨b,off + j,none⟩ = some (.int .i64 (z j))
theorem SlZ.below {ao : Option Addr} {n B : Nat} {z : Nat → Int} {w w' : World} (h : SlZ ao n z w) (hb : Below B w w') (hB : LtB ao B) : SlZ ao n z w' := fun j hj => by
 obtain ⟨b,off,rfl,hc⟩ := h j hj
 exact ⟨b,off,rfl,((bcell hb).1 b (off + j) (hB _ rfl)).trans hc⟩
theorem Sl.z {ao : Option Addr} {n : Nat} {c : Nat → Nat} {w : World} (h : Sl ao n c w) : SlZ ao n (fun j => (c j : Nat)) w := h
def FD.allHas (D : FD) (z : Nat → Int) : Nat → Bool
 | 0 => true
 | n + 1 => D.allHas z n && D.has (z n)
theorem allHas_iff {D : FD} {z : Nat → Int} : ∀ {n : Nat},D.allHas z n = true ↔ ∀ j,j < n → D.has (z j) = true
 | 0 => ⟨fun _ j hj => by omega,fun _ => rfl⟩
 | n + 1 => by
   rw [FD.allHas,Bool.and_eq_true,allHas_iff]
   constructor
   · rintro ⟨h1,h2⟩ j hj
     by_cases e : j = n
     · rw [e]; exact h2
     · exact h1 j (by omega)
   · intro h
     exact ⟨fun j hj => h j (by omega),h n (by omega)⟩
def FD.chk (D : FD) (n : Nat) (z : Nat → Int) : Int := if 128 < n then 4 else if D.allHas z n = true then 0 else 2
structure Arg (ao : Option Addr) (n cap : Nat) (z : Nat → Int) (w : World) : Prop where
 sl : SlZ ao n z w
 lt : LtB ao w.heap.size
 few : n ≤ 1000000
 nil : ao = none → cap = 0
 le : n ≤ cap
 cap : cap ≤ 9223372036854775807
theorem Arg.below {ao : Option Addr} {n cap : Nat} {z : Nat → Int} {w w' : World} (h : Arg ao n cap z w) (hb : Below w.heap.size w w') : Arg ao n cap z w' :=
 ⟨h.sl.below hb h.lt,h.lt.mono hb.size,h.few,h.nil,h.le,h.cap⟩
def two {α : Type} (x y : α) : Nat → α := fun j => if j = 0 then x else y
def zc (n : Nat) (z : Nat → Int) : Nat → Nat := fun j => if j < n then (z j).toNat else 0
theorem zc_bd (n : Nat) (z : Nat → Int) : Bd n (zc n z) := fun k hk => by unfold zc; rw [if_neg (by omega)]
theorem chk_zero {D : FD} {n : Nat} {z : Nat → Int} (h : D.chk n z = 0) : n ≤ 128 ∧ ∀ j,j < n → D.has (z j) = true := by
 unfold FD.chk at h
 by_cases h1 : 128 < n
 · rw [if_pos h1] at h; cases h
 · rw [if_neg h1] at h
   by_cases h2 : D.allHas z n = true
   · exact ⟨by omega,allHas_iff.1 h2⟩
   · rw [if_neg h2] at h; cases h
theorem zc_el {D : FD} (F : Fld D) {n : Nat} {z : Nat → Int} (h : D.chk n z = 0) : El D (zc n z) := fun j => by
 unfold zc
 by_cases e : j < n
 · obtain ⟨x,hx,hxq⟩ := has_nat ((chk_zero h).2 j e)
   rw [if_pos e,hx,Int.toNat_natCast]; exact hxq
 · rw [if_neg e]; exact zero_lt' F
theorem zc_sl {D : FD} {ao : Option Addr} {n : Nat} {z : Nat → Int} {w : World} (h : D.chk n z = 0) (hS : SlZ ao n z w) : Sl ao n (zc n z) w := fun j hj => by
 obtain ⟨b,off,e,hc⟩ := hS j hj
 obtain ⟨x,hx,hxq⟩ := has_nat ((chk_zero h).2 j hj)
 refine ⟨b,off,e, ?_⟩
 rw [hc]
 unfold zc
 rw [if_pos hj,hx,Int.toNat_natCast]
end Go.Proofs.YtinmkgohganllaaGreatDoor
namespace Go.Proofs.YtinmkgohganllaaGreatDoor
open Go Go.Sort Go.RowKit
theorem quiet_tail_of {P : Program} {C : World → Prop} {id : Nat} {Q : Exit → Act → World → Prop} {a : Act} {w : World} {l : List Oper} (n : Nat) (hm : P.follows .mixedOrders = true) (hB : Region.lexTailB .any l.toArray n = true) (hC : C { w with drawn := w.drawn + 1 })
   (h : wpQuiet P l.toArray C (fun a' => ∀ w',C w' → wpList P l.toArray Q (l.drop n) a' w') (l.take n) a) : (Code.region id l.toArray true).wp P Q a w := by
 simp only [Region.lexTailB,Bool.and_eq_true,decide_eq_true_eq] at hB
 obtain ⟨⟨⟨⟨hsel,hn⟩,hs⟩,hc⟩,hlex⟩ := hB
 have hn' : n < l.length := by simpa using hn
 have htl : (l.take n).length = n := by simp; omega
 have hdl : (l.drop n).length = l.toArray.size - n := by simp
 have inv0 : HeadInv .any l.toArray n (Array.replicate l.toArray.size false) :=
   ⟨by simp,fun j oj _ hl => (by rw [getD_replicate_false] at hl; cases hl),fun t _ ht => getD_in (by simpa using ht) (getD_replicate_false _ _)⟩
 have H := head_lex (g := l.toArray.size - n) hsel hs hc hn (l.take n) 0 _ a (fun j hj => by
   have hj' : j < n := by rw [htl] at hj; exact hj
   simp [hj']) (by simpa using htl) inv0 (by rw [htl]; exact hlex) h
 refine wp_region_any hm ?_
 have R := head_any (Q := Q) (g := l.toArray.size - n) (fun s a' w' hw' hL => by
   have := wpAny_of_seq (md := .any) (Q' := Q) (l.drop n) n s a' w' (fun j => by simp [List.getElem?_drop]) (by rw [hdl]; exact hL.1) (hL.2 w' hw')
   rwa [hdl] at this) _ _ _ _ hC H
 rw [htl,show n + (l.toArray.size - n) = l.toArray.size by omega] at R
 exact R
theorem below_tail {P : Program} {id : Nat} {Q : Exit → Act → World → Prop} {a : Act} {w : World} {l : List Oper} (n : Nat) (hm : P.follows .mixedOrders = true) (hB : Region.lexTailB .any l.toArray n = true)
   (h : wpQuiet P l.toArray (fun w' => ∃ p : Regrown,w' = grow (redrawn w p.d) p.os) (fun a' => ∀ w',(∃ p : Regrown,w' = grow (redrawn w p.d) p.os) → wpList P l.toArray Q (l.drop n) a' w') (l.take n) a) : (Code.region id l.toArray true).wp P Q a w :=
 quiet_tail_of (C := fun w' => ∃ p : Regrown,w' = grow (redrawn w p.d) p.os) n hm hB ⟨⟨w.drawn + 1, #[]⟩,by rw [grow_empty]; rfl⟩ h
theorem free_regrown {w : World} {a : Addr} (ha : a.block < w.heap.size) (h : w.frozen? a = false) (d : Nat) (os : Array Obj) : (grow (redrawn w d) os).frozen? a = false := by
 rw [World.frozen?_of_block (w := w) ((below_regrown w d os).block _ ha)]; exact h
end Go.Proofs.YtinmkgohganllaaGreatDoor
namespace Go.Proofs.YtinmkgohganllaaGreatDoor
open Go.RowKit Go.Sort
end Go.Proofs.YtinmkgohganllaaGreatDoor
namespace Go.Proofs.YtinmkgohganllaaGreatDoor
open Go.RowKit
end Go.Proofs.YtinmkgohganllaaGreatDoor
