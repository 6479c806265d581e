/- Texts of ours, one behind the other: W13 KD2 KD3 KD4 KD5 KD6 KD7 KD8 KD9 S29 KD10 KD14 S31 S32 S33 KE1 KE2 KE3 KE4 KE5 S34 KH1 KH2 KI1 KI2 KI3 KI4 W14 W15 KL1 KL2 KL3 KL4 KL5 KL6 KL7 KL8 S47 S49 S50 S52 S53 KN1 S54 S55 S56 KN2 KR1 S63 KS1 KS3 KS4 S65 S66 S67. -/
import Derived.Test.YtppggchhkckobaaGreatZX18
import Derived.Test.YtppggchhkckobaaGreatZI27
import Derived.Test.YtppggchhkckobaaGreatZV7
import Derived.Test.YtppggchhkckobaaGreatZU2
import Derived.Deep.OwnRows
import Derived.Test.YtppggchhkckobaaGreatZV6
import Derived.Lib.AppendZerosOnto
import Derived.Test.YtppggchhkckobaaGreatZT1
import Derived.Shelf.Abstract
import Derived.Test.YtppggchhkckobaaGreatZL1
import Derived.Test.YtppggchhkckobaaGreatZA1
import Derived.Test.YtppggchhkckobaaGreatZL10
import Derived.Test.YtppggchhkckobaaGreatZR10
import Derived.RangeFuncNested
import Derived.RangeFuncBound
import Derived.RangeFuncCalls
import Derived.RangeFuncLeaves
import Derived.WalkKit
import Derived.OrdersIn
import Derived.Test.YtppggchhkckobaaGreatZM3
import Derived.Shelf.RegionOpen
import Derived.OwnWalkIn
import Derived.TacticsInMore
import Derived.LoopNIn
import Derived.LoopIn
import Derived.Test.YtppggchhkckobaaGreatZI12
import Derived.Test.YtppggchhkckobaaGreatZI1
import Derived.Deep.RegionHeld3
import Derived.Test.YtppggchhkckobaaGreatZR5
import Derived.Test.YtppggchhkckobaaGreatZU8
import Derived.Test.YtppggchhkckobaaGreatZN1
import Derived.Test.YtppggchhkckobaaGreatZR17
namespace Go.Proofs.YtppggchhkckobaaGreat
open Go
def wpAnyL (P : Program) (ops : Array Oper) (Q : Exit → Act → World → Prop) (S : World → Prop) (L : List Nat) : Nat → Array Bool → Act → World → Prop
 | 0,s,a,w => Region.ready .any ops s = [] ∧ Q .normal a w
 | f + 1,s,a,w => (Region.ready .any ops s = [] → Q .normal a w) ∧ ∀ i ∈ Region.ready .any ops s,wpOp P ops Q i (fun a' w' => (i ∉ L → S w') ∧ wpAnyL P ops Q S L f (s.setIfInBounds i true) a' w') a w
theorem wpAny_of_L {P : Program} {ops : Array Oper} {Q : Exit → Act → World → Prop} {S : World → Prop} {L : List Nat} : ∀ (f : Nat) (s : Array Bool) (a : Act) (w : World),wpAnyL P ops Q S L f s a w → wpAny P .any ops Q f s a w
 | 0,_,_,_,h => h
 | f + 1,_,_,_,h => ⟨h.1,fun i hi => wpOp_mono (fun a' w' h' => wpAny_of_L f _ a' w' h'.2) (h.2 i hi)⟩
theorem done_at {s : Array Bool} {k : Nat} (h : s.getD k false = true) : s[k]? = some true := by
 rcases Nat.lt_or_ge k s.size with h1 | h1
 · rw [Array.getElem?_eq_getElem h1]
   simp [h1] at h
   rw [h]
 · simp [Array.getElem?_eq_none h1] at h
def Closed (ops : Array Oper) (s : Array Bool) : Prop := ∀ m o,ops[m]? = some o → s.getD m true = true → ∀ e ∈ o.after,Region.binds .any e = true → s[e.on]? = some true
def closedB (ops : Array Oper) (s : Array Bool) : Bool := (List.range ops.size).all fun m => !(s.getD m true) || ((ops[m]?).map fun o => o.after.all fun e => !(Region.binds .any e) || (s[e.on]? == some true)).getD true
theorem closed_of {ops : Array Oper} {s : Array Bool} (h : closedB ops s = true) : Closed ops s := by
 intro m o ho hm e he hb
 have hlt : m < ops.size := by
   rcases Nat.lt_or_ge m ops.size with h1 | h1
   · exact h1
   · rw [Array.getElem?_eq_none h1] at ho; cases ho
 have h1 := List.all_eq_true.1 h m (List.mem_range.2 hlt)
 rw [hm,ho] at h1
 have h2 : (o.after.all fun e => !(Region.binds .any e) || (s[e.on]? == some true)) = true := by simpa using h1
 have h3 := Array.all_eq_true'.1 h2 e he
 rw [hb] at h3
 simpa using h3
theorem closed_step {ops : Array Oper} {s : Array Bool} (h : Closed ops s) {j : Nat} (hj : j ∈ Region.ready .any ops s) : Closed ops (s.setIfInBounds j true) := by
 intro m o ho hm e he hb
 obtain ⟨hjun,oj,hoj,hall⟩ := mem_ready.1 hj
 have key : s[e.on]? = some true := by
   by_cases e1 : j = m
   · subst e1
     rw [ho] at hoj
     cases hoj
     exact done_at (hall e he hb)
   · rw [getD_set_ne true e1] at hm
     exact h m o ho hm e he hb
 rw [Array.getElem?_setIfInBounds]
 split
 · rename_i e2
   split
   · rfl
   · rename_i h2
     rw [← e2] at key
     rw [Array.getElem?_eq_none (by omega)] at key; cases key
 · exact key
def waitsT (ops : Array Oper) : Nat → Nat → Nat → Bool
 | 0,j,i => waitsB ops j i
 | n + 1,j,i => waitsB ops j i || (List.range ops.size).any fun m => waitsB ops j m && waitsT ops n m i
theorem waits_done {ops : Array Oper} {s : Array Bool} {j i : Nat} {o : Oper} (ho : ops[j]? = some o) (hall : ∀ e ∈ o.after,Region.binds .any e = true → s[e.on]? = some true) (h : waitsB ops j i = true) : s[i]? = some true := by
 unfold waitsB at h
 rw [ho] at h
 obtain ⟨e,he,hb⟩ := Array.any_eq_true'.1 (show (o.after.any fun e => Region.binds .any e && e.on == i) = true from h)
 rw [Bool.and_eq_true,beq_iff_eq] at hb
 rw [← hb.2]
 exact hall e he hb.1
theorem waitsT_done {ops : Array Oper} {s : Array Bool} (hc : Closed ops s) {i : Nat} : ∀ (n j : Nat) (o : Oper),ops[j]? = some o → (∀ e ∈ o.after,Region.binds .any e = true → s[e.on]? = some true) → waitsT ops n j i = true → s[i]? = some true
 | 0,j,o,ho,hall,h => waits_done ho hall h
 | n + 1,j,o,ho,hall,h => by
   have h : (waitsB ops j i || (List.range ops.size).any fun m => waitsB ops j m && waitsT ops n m i) = true := h
   rw [Bool.or_eq_true] at h
   rcases h with h | h
   · exact waits_done ho hall h
   · obtain ⟨m,hm,hw⟩ := List.any_eq_true.1 h
     rw [Bool.and_eq_true] at hw
     have hd := waits_done ho hall hw.1
     have hlt := List.mem_range.1 hm
     obtain ⟨om,hom⟩ : ∃ om,ops[m]? = some om := ⟨ops[m],Array.getElem?_eq_getElem hlt⟩
     refine waitsT_done hc n m om hom (hc m om hom ?_) hw.2
     simp [Array.getD_eq_getD_getElem?,hd]
def lateB (ops : Array Oper) (L : List Nat) (i : Nat) : Bool := L.all fun j => waitsT ops 3 j i
theorem late_not {ops : Array Oper} {L : List Nat} {i j : Nat} {s : Array Bool} (hc : Closed ops s) (h : lateB ops L i = true) (hi : s.getD i true = false) (hj : j ∈ Region.ready .any ops s) : j ∉ L := by
 intro hL
 obtain ⟨_,o,ho,hall⟩ := mem_ready.1 hj
 have h1 := waitsT_done hc 3 j o ho (fun e he hb => done_at (hall e he hb)) (List.all_eq_true.1 h j hL)
 simp [Array.getD_eq_getD_getElem?,h1] at hi
theorem wpAnyL_first {P : Program} {ops : Array Oper} {Q : Exit → Act → World → Prop} {S : World → Prop} {L : List Nat} {i : Nat} {oi : Oper} {v : Value} (hi : ops[i]? = some oi) (hsel : ∀ (j : Nat) (o : Oper) cs b, ops[j]? = some o → o.op ≠ .select cs b)
   (hQ : ∀ c a w,Q (.panic c) (a.put oi.dst v) w → Q (.panic c) a w) (hL : lateB ops L i = true) :
   ∀ (f : Nat) (s : Array Bool) (a : Act) (w : World),
     (∀ j oj,ops[j]? = some oj → j ≠ i → s.getD j true = false → (∀ e ∈ oj.after,Region.binds .any e = true → e.on ≠ i) → oi.apart ops oj = true) →
     i ∈ Region.ready .any ops s → Closed ops s → YieldsIf P ops S oi v a → S w →
     wpAnyL P ops Q S L f (s.setIfInBounds i true) (a.put oi.dst v) w → wpAnyL P ops Q S L (f + 1) s a w := by
 intro f
 induction f with
 | zero =>
   intro s a w _ hr _ hy hS H
   refine ⟨fun h => (by rw [h] at hr; cases hr),fun j hj => ?_⟩
   by_cases hji : j = i
   · subst hji; exact hy.wpOp hi hS ⟨fun _ => hS,H⟩
   · have := ready_mono hj hji
     rw [H.1] at this
     cases this
 | succ f ih =>
   intro s a w hfree hr hcl hy hS H
   refine ⟨fun h => (by rw [h] at hr; cases hr),fun j hj => ?_⟩
   by_cases hji : j = i
   · subst hji; exact hy.wpOp hi hS ⟨fun _ => hS,H⟩
   · have h1 := H.2 j (ready_mono hj hji)
     have hjL : j ∉ L := late_not hcl hL (mem_ready.1 hr).1 hj
     obtain ⟨hjun,oj,hoj,hall⟩ := mem_ready.1 hj
     have hnot : ∀ e ∈ oj.after,Region.binds .any e = true → e.on ≠ i := fun e he hb heq => by
       have h1 := hall e he hb
       have h0 := (mem_ready.1 hr).1
       rw [heq] at h1
       rcases Nat.lt_or_ge i s.size with h' | h'
       · simp [h'] at h0 h1; rw [h0] at h1; cases h1
       · simp [Array.getElem?_eq_none h'] at h1
     have h2 := wpOp_putIf hoj (hfree j oj hoj hji hjun hnot) (fun cs b => hsel i oi cs b hi) (fun cs b => hsel j oj cs b hoj) hQ hy h1
     have hfree' : ∀ k ok, ops[k]? = some ok → k ≠ i → (s.setIfInBounds j true).getD k true = false →
         (∀ e ∈ ok.after,Region.binds .any e = true → e.on ≠ i) → oi.apart ops ok = true := fun k ok hk hki hun hno => by
       refine hfree k ok hk hki ?_ hno
       by_cases hjk : j = k
       · subst hjk; exact hjun
       · rw [getD_set_ne true hjk] at hun; exact hun
     refine wpOp_mono (fun a' w' h3 => ⟨fun _ => h3.2.1 hjL,ih (s.setIfInBounds j true) a' w' hfree' (ready_mono hr (Ne.symm hji)) (closed_step hcl hj) h3.1 (h3.2.1 hjL) ?_⟩) h2
     rw [Array.setIfInBounds_comm _ _ hji]
     exact h3.2.2
theorem wpAnyL_take {P : Program} {ops : Array Oper} {Q : Exit → Act → World → Prop} {S : World → Prop} {L : List Nat} {i : Nat} {oi : Oper} {v : Value} {f : Nat} {s : Array Bool} {a : Act} {w : World} (hi : ops[i]? = some oi)
   (hs : Region.noSelect ops = true) (hf : Region.free .any ops s i = true) (hr : (Region.ready .any ops s).contains i = true) (hcl : closedB ops s = true) (hL : lateB ops L i = true)
   (hQ : ∀ c a w,Q (.panic c) (a.put oi.dst v) w → Q (.panic c) a w) (hS : S w) (hy : YieldsIf P ops S oi v a)
   (h : wpAnyL P ops Q S L f (s.setIfInBounds i true) (a.put oi.dst v) w) : wpAnyL P ops Q S L (f + 1) s a w :=
 wpAnyL_first hi (Region.noSelect_spec hs) hQ hL f s a w (Region.free_spec hi hf) (by simpa using hr) (closed_of hcl) hy hS h
theorem wpAnyL_one {P : Program} {ops : Array Oper} {Q : Exit → Act → World → Prop} {S : World → Prop} {L : List Nat} {i : Nat} {o : Oper} {f : Nat} {s : Array Bool} {a : Act} {w : World} (hr : Region.ready .any ops s = [i]) (ho : ops[i]? = some o)
   (h : ∀ K : Act → World → Prop,(∀ a' w',(i ∉ L → S w') → wpAnyL P ops Q S L f (s.setIfInBounds i true) a' w' → K a' w') → if Region.wanted o (yielded ops a.tmps) = true then Oper.wp P o a w K Q else K (a.put o.dst undef) w) : wpAnyL P ops Q S L (f + 1) s a w := by
 refine ⟨fun e => (by rw [hr] at e; cases e),fun j hj => ?_⟩
 rw [hr,List.mem_singleton] at hj
 subst hj
 have h1 := h (fun a' w' => (j ∉ L → S w') ∧ wpAnyL P ops Q S L f (s.setIfInBounds j true) a' w') (fun a' w' h1 h2 => ⟨h1,h2⟩)
 unfold wpOp
 simp only [ho]
 split
 · rename_i hw
   rw [if_pos hw] at h1
   exact Or.inl h1
 · rename_i hw
   rw [if_neg hw] at h1
   exact h1
theorem wpAnyL_done {P : Program} {ops : Array Oper} {Q : Exit → Act → World → Prop} {S : World → Prop} {L : List Nat} {s : Array Bool} {a : Act} {w : World} (hr : Region.ready .any ops s = []) (h : Q .normal a w) : wpAnyL P ops Q S L 0 s a w := ⟨hr,h⟩
theorem wp_region_L {P : Program} {ops : Array Oper} {Q : Exit → Act → World → Prop} {S : World → Prop} (L : List Nat) {id : Nat} {a : Act} {w : World} (hm : P.follows .mixedOrders = true)
   (h : wpAnyL P ops Q S L ops.size (Array.replicate ops.size false) a w.drew) : (Code.region id ops true).wp P Q a w :=
 wp_region_any hm (wpAny_of_L _ _ _ _ h)
end Go.Proofs.YtppggchhkckobaaGreat
namespace Go.Proofs.YtppggchhkckobaaGreat
open Go.RowKit Go.Sort
theorem two_cell (w : World) (v : Value) : (w.alloc (.cells #[v] 3)).cell? ⟨w.heap.size,0,none⟩ = some v := by simp
def nal (D : FD) (c : Nat → Nat) (i : Nat) : Nat → Nat := elc D (fun _ => true) c i
theorem ct_true : ∀ i,ct (fun _ => true) i = i
 | 0 => rfl
 | i + 1 => by show ct (fun _ => true) i + 1 = _; rw [ct_true i]
theorem nal_ok {D : FD} (F : Fld D) {c : Nat → Nat} {n : Nat} (hc : ∀ i,i < n → c i < D.q) (i : Nat) (hi : i ≤ n) : El D (nal D c i) ∧ Bd (i + 1) (nal D c i) ∧ nal D c i i = 1 ∧ ∀ j,j < i → D.ev (nal D c i) (c j) (i + 1) = 0 := by
 have h := elc_ok F (err := fun _ => true) hc i hi
 rw [ct_true] at h
 exact ⟨h.1,h.2.1,h.2.2.1,fun j hj => h.2.2.2 j hj rfl⟩
theorem nal_succ {D : FD} (F : Fld D) {c : Nat → Nat} {n : Nat} (hc : ∀ i,i < n → c i < D.q) {i : Nat} (hi : i < n) : pmul D (i + 1) (nal D c i) (xmr D (c i)) = nal D c (i + 1) := by
 obtain ⟨h1,h2,_,_⟩ := nal_ok F hc i (by omega)
 rw [pmul_comm F h1 (xmr_el F (hc i hi)) h2 (xmr_bd _)]
 show pmul D 2 (xmr D (c i)) (elc D (fun _ => true) c i) = if true = true then pmul D 2 (xmr D (c i)) (elc D (fun _ => true) c i) else elc D (fun _ => true) c i
 rw [if_pos rfl]
theorem duo_cell (w : World) (v u : Value) : (w.alloc (.cells #[v,u] 3)).cell? ⟨w.heap.size,0,none⟩ = some v ∧ (w.alloc (.cells #[v,u] 3)).cell? ⟨w.heap.size,1,none⟩ = some u := ⟨by simp,by simp⟩
theorem pow_nat {F T : Nat} {D : FD} (hD : D ∈ fieldsL) {g : Nat → Value} {w : World} (h : FAt F T D g w) {a : Nat} (ha : a < D.q) (k : Nat) (hk : k ≤ 1000) :
   Calls Tryz.prog 37 #[.pointer (some ⟨F,0,none⟩), .int .i64 (a : Nat), .int .i64 (k : Nat)] w fun e w' => e = .returned (.int .i64 (D.xp a k : Nat)) ∧ ∃ n,w' = w.drewN n := by
 have h1 := pow_any hD h (a : Nat) (k : Nat) (by omega) (by omega)
 rw [pn_eq ha,pn_xp hD ha] at h1
 exact h1
end Go.Proofs.YtppggchhkckobaaGreat
namespace Go.Proofs.YtppggchhkckobaaGreat
end Go.Proofs.YtppggchhkckobaaGreat
namespace Go.Proofs.YtppggchhkckobaaGreat
open Go.RowKit Go.Sort
def RowE (g n : Nat) (z : Nat → Int) (w : World) : Prop := RowF g n 3 (fun j => .int .i64 (z j)) w
theorem rowE_zeros {base n : Nat} {w : World} (h : OwnI base (.slice (some ⟨base,0,none⟩) n n) (List.replicate n 0) w) : RowE base n (fun _ => 0) w := by
 rcases h.2 with ⟨h1,_⟩ | ⟨g,cap,cur,hv,hg,hh,hle,hcm,hsz,htake⟩
 · cases h1
 · simp only [List.length_replicate,Value.slice.injEq,Option.some.injEq,Addr.mk.injEq,and_true,true_and] at hv
   obtain ⟨rfl,rfl⟩ := hv
   by_cases h0 : n = 0
   · exact ⟨cur,hh,by omega,fun o ho => by omega⟩
   · obtain ⟨gl,cl,fl,hvl,hgl,hgl',hll,hcl,hrl,hfl⟩ := h.row n (by simp) (by omega)
     simp only [Value.slice.injEq,Option.some.injEq,Addr.mk.injEq,and_true,true_and] at hvl
     obtain ⟨rfl,rfl⟩ := hvl
     exact RowF.congr hrl fun k hk => by rw [hfl k hk,list_getD_replicate]
theorem RowE.store {g n : Nat} {z : Nat → Int} {w : World} (h : RowE g n z w) (k : Nat) (v : Int) : RowE g n (fun j => if j = k then v else z j) (w.setCell ⟨g,k,none⟩ (.int .i64 v)) := by
 refine (RowF.store h k (.int .i64 v)).congr (fun o _ => ?_)
 show (if o = k then Value.int .i64 v else Value.int .i64 (z o)) = Value.int .i64 (if o = k then v else z o)
 by_cases e : o = k
 · rw [if_pos e,if_pos e]
 · rw [if_neg e,if_neg e]
theorem RowE.own {g n base : Nat} {z : Nat → Int} {w : World} (h : RowE g n z w) (hb : base ≤ g) (hn : n ≤ 1000000) : OwnI base (.slice (some ⟨g,0,none⟩) n n) (zl n z) w := RowF.own h (zl_len n z) (fun j hj => by rw [zl_getD n z j hj]) hb hn
end Go.Proofs.YtppggchhkckobaaGreat
namespace Go.Proofs.YtppggchhkckobaaGreat
open Go.RowKit
end Go.Proofs.YtppggchhkckobaaGreat
namespace Go.Proofs.YtppggchhkckobaaGreat
open Go
end Go.Proofs.YtppggchhkckobaaGreat
namespace Go.Proofs.YtppggchhkckobaaGreat
open Go.RowKit Go.Shelf
attribute [local go_sem] Oper.semAt_some
end Go.Proofs.YtppggchhkckobaaGreat
namespace Go.Proofs.YtppggchhkckobaaGreat
open Go.RowKit Go.Sort
end Go.Proofs.YtppggchhkckobaaGreat
namespace Go.Proofs.YtppggchhkckobaaGreat
open Go.RowKit Go.Sort Go.Shelf
attribute [local go_sem] Oper.semAt_some
end Go.Proofs.YtppggchhkckobaaGreat
namespace Go.Proofs.YtppggchhkckobaaGreat
open Go.RowKit Go.Sort Go.Shelf
end Go.Proofs.YtppggchhkckobaaGreat
namespace Go.Proofs.YtppggchhkckobaaGreat
open Go.RowKit Go.Sort
theorem Red.few {D : FD} (hD : D ∈ fieldsL) {n m k : Nat} {M R : Nat → Nat → Nat} (h : Red D n m M k R) (he : ∀ i,i < m → El D (M i) ∧ Bd n (M i)) : k ≤ m := by
 obtain ⟨k',R',p',hk,hr,hs⟩ := rre_ex hD (fun i hi => (he i hi).1) (fun i hi => (he i hi).2)
 have := (Red.uniq (fld hD) h ⟨p',hr,hs⟩ (fun _ => Iff.rfl)).1
 omega
end Go.Proofs.YtppggchhkckobaaGreat
namespace Go.Proofs.YtppggchhkckobaaGreat
open Go.RowKit
end Go.Proofs.YtppggchhkckobaaGreat
namespace Go.Proofs.YtppggchhkckobaaGreat
def ptr : Nat → (Nat → Nat) → Nat → Nat
 | 0,w => w
 | m + 1,w => fun i => if i < 2 ^ m then (ptr m w i + ptr m (fun j => w (j + 2 ^ m)) i) % 2 else ptr m (fun j => w (j + 2 ^ m)) (i - 2 ^ m)
end Go.Proofs.YtppggchhkckobaaGreat
namespace Go.Proofs.YtppggchhkckobaaGreat
open Go.RowKit Go.Sort
theorem list_zl : ∀ l : List Int,l = zl l.length (fun i => l.getD i 0) := fun l => by
 apply List.ext_getElem?
 intro i
 by_cases h : i < l.length
 · rw [zl_get _ _ i h,List.getElem?_eq_getElem h,List.getD_eq_getElem?_getD,List.getElem?_eq_getElem h]; rfl
 · rw [List.getElem?_eq_none (by omega),List.getElem?_eq_none (by rw [zl_len]; omega)]
theorem OwnI.argOf {base n : Nat} {v : Value} {l : List Int} {w : World} (h : OwnI base v l w) (hl : l.length = n) : ∃ ao ca,v = .slice ao n ca ∧ ArgL ao n ca (fun i => l.getD i 0) w := by
 subst hl
 have h2 : OwnI base v (zl l.length fun i => l.getD i 0) w := by rw [← list_zl l]; exact h
 exact h2.argL
end Go.Proofs.YtppggchhkckobaaGreat
namespace Go.Proofs.YtppggchhkckobaaGreat
def orb (q n z j : Nat) : Nat := z * q ^ j % n
theorem orb_zero {q n z : Nat} (hz : z < n) : orb q n z 0 = z := by
 unfold orb
 rw [Nat.pow_zero,Nat.mul_one,Nat.mod_eq_of_lt hz]
theorem orb_succ (q n z j : Nat) : orb q n z (j + 1) = orb q n z j * q % n := by
 unfold orb
 rw [Nat.pow_succ, ← Nat.mul_assoc,Nat.mod_mul_mod]
theorem orb_lt {q n z j : Nat} (hn : 0 < n) : orb q n z j < n := Nat.mod_lt _ hn
theorem orb_orb (q n z i j : Nat) : orb q n (orb q n z i) j = orb q n z (i + j) := by
 unfold orb
 rw [Nat.mod_mul_mod,Nat.mul_assoc,Nat.pow_add]
def Clq (q n : Nat) (L : List Nat) : Prop := ∀ k ∈ L,k * q % n ∈ L
theorem Clq.orb {q n : Nat} {L : List Nat} (h : Clq q n L) {k : Nat} (hk : k ∈ L) (hl : k < n) : ∀ j,orb q n k j ∈ L
 | 0 => by rw [orb_zero hl]; exact hk
 | j + 1 => by rw [orb_succ]; exact h _ (Clq.orb h hk hl j)
theorem walk_end {q n z s : Nat} {L L' : List Nat} (hn : 0 < n) (hL : Clq q n L) (hm : ∀ k, k ∈ L' ↔ k ∈ L ∨ ∃ j, j < s ∧ orb q n z j = k) (he : orb q n z s ∈ L') :
   Clq q n L' ∧ ∀ j,orb q n z j ∈ L' := by
 have hall : ∀ j,orb q n z j ∈ L' := by
   rcases (hm _).1 he with h | ⟨s',hs',h⟩
   · intro j
     by_cases c : j < s
     · exact (hm _).2 (Or.inr ⟨j,c,rfl⟩)
     · obtain ⟨d,rfl⟩ : ∃ d,j = s + d := ⟨j - s,by omega⟩
       rw [← orb_orb]
       exact (hm _).2 (Or.inl (hL.orb h (orb_lt hn) d))
   · intro j
     induction j with
     | zero =>
       by_cases c : 0 < s
       · exact (hm _).2 (Or.inr ⟨0,c,rfl⟩)
       · omega
     | succ j ih =>
       rcases (hm _).1 ih with k | ⟨i,hi,k⟩
       · have := hL _ k
         rw [orb_succ]
         exact (hm _).2 (Or.inl this)
       · rw [orb_succ, ← k, ← orb_succ]
         by_cases c : i + 1 < s
         · exact (hm _).2 (Or.inr ⟨i + 1,c,rfl⟩)
         · have : i + 1 = s := by omega
           rw [this]
           exact he
 refine ⟨fun k hk => ?_,hall⟩
 rcases (hm k).1 hk with h | ⟨j,_,rfl⟩
 · exact (hm _).2 (Or.inl (hL k h))
 · rw [← orb_succ]; exact hall (j + 1)
def Clo (q n : Nat) (z : Nat → Nat) (m : Nat) (k : Nat) : Prop := ∃ i,i < m ∧ ∃ j,orb q n (z i) j = k
def Ord (q n : Nat) : Prop := ∃ t,0 < t ∧ q ^ t % n = 1 % n
theorem Ord.back {q n x j : Nat} (h : Ord q n) (hx : x < n) : ∃ i,orb q n (orb q n x j) i = x := by
 obtain ⟨t,ht,e⟩ := h
 have hp : ∀ d,(q ^ t) ^ d % n = 1 % n := fun d => by
   induction d with
   | zero => rw [Nat.pow_zero]
   | succ d ih => rw [Nat.pow_succ,Nat.mul_mod,ih,e, ← Nat.mul_mod,Nat.mul_one]
 refine ⟨t * j - j, ?_⟩
 have hle : j ≤ t * j := Nat.le_mul_of_pos_left j ht
 rw [orb_orb,Nat.add_sub_cancel' hle]
 unfold orb
 rw [Nat.pow_mul,Nat.mul_mod,hp j, ← Nat.mul_mod,Nat.mul_one,Nat.mod_eq_of_lt hx]
theorem Ord.sym {q n x y j : Nat} (h : Ord q n) (hx : x < n) (e : orb q n x j = y) : ∃ i,orb q n y i = x := by
 obtain ⟨i,hi⟩ := h.back (j := j) hx
 exact ⟨i,by rw [← e]; exact hi⟩
theorem sort_range {n : Nat} {L : List Nat} (hd : L.Nodup) (hl : ∀ k ∈ L,k < n) : ((L.map fun j => ((j : Nat) : Int)).mergeSort fun x y => decide (x ≤ y)) = ((List.range n).filter fun j => L.contains j).map fun j => ((j : Nat) : Int) := by
 have hp : ((List.range n).filter fun j => L.contains j).Perm L := by
   refine (List.perm_ext_iff_of_nodup (List.nodup_range.filter _) hd).2 (fun a => ?_)
   rw [List.mem_filter,List.contains_iff_mem]
   exact ⟨fun h => h.2,fun h => ⟨List.mem_range.2 (hl a h),h⟩⟩
 refine List.Perm.eq_of_pairwise (le := fun a b : Int => a ≤ b) (fun a b _ _ x y => Int.le_antisymm x y) ?_ ?_ ?_
 · exact (List.pairwise_mergeSort (le := fun x y : Int => decide (x ≤ y)) (fun a b c h1 h2 => by simp only [decide_eq_true_eq] at *; omega) (fun a b => by simp only [Bool.or_eq_true,decide_eq_true_eq]; omega) _).imp (fun h => by simpa using h)
 · rw [List.pairwise_map]
   exact (List.Pairwise.filter _ List.pairwise_lt_range).imp (fun {a b} h => by omega)
 · exact (List.mergeSort_perm _ _).trans (hp.map _).symm
end Go.Proofs.YtppggchhkckobaaGreat
namespace Go.Proofs.YtppggchhkckobaaGreat
def lnf (D : FD) (r : Nat) : Nat → Nat := fun k => if k = 0 then D.ng r else if k = 1 then 1 else 0
theorem lnf_el {D : FD} (F : Fld D) {r : Nat} (hr : r < D.q) : El D (lnf D r) := fun k => by
 unfold lnf
 split
 · exact ng_lt F hr
 · split
   · exact one_lt' F
   · exact zero_lt' F
theorem lnf_bd (D : FD) (r : Nat) : Bd 2 (lnf D r) := fun k hk => by
 unfold lnf
 rw [if_neg (by omega),if_neg (by omega)]
def prL (D : FD) : List Nat → Nat → Nat
 | [] => pone
 | r :: l => pmul D (l.length + 1) (prL D l) (lnf D r)
theorem prL_el {D : FD} (F : Fld D) : ∀ l,El D (prL D l)
 | [] => el_one F
 | _ :: _ => el_mul F _ _ _
theorem prL_bd {D : FD} (F : Fld D) : ∀ l,Bd (l.length + 1) (prL D l)
 | [] => fun k hk => by
   show (if k = 0 then 1 else 0) = 0
   rw [if_neg (by simp at hk; omega)]
 | r :: l => by
   have := pmul_bd F (a := prL D l) (lnf_bd D r) (l.length + 1)
   exact this
theorem prL_top {D : FD} (F : Fld D) : ∀ l,prL D l l.length = 1
 | [] => rfl
 | r :: l => by
   show pmul D (l.length + 1) (prL D l) (lnf D r) (l.length + 1) = 1
   rw [pmul_top F (lnf_bd D r),prL_top F l]
   show D.mul 1 (if 1 = 0 then _ else if 1 = 1 then 1 else 0) = 1
   rw [if_neg (by omega),if_pos rfl]
   exact mul1 F (one_lt' F)
theorem lnf_swap {D : FD} (F : Fld D) {P : Nat → Nat} {n a b : Nat} (ha : a < D.q) (hb : b < D.q) : pmul D (n + 1) (pmul D n P (lnf D a)) (lnf D b) = pmul D (n + 1) (pmul D n P (lnf D b)) (lnf D a) := by
 have h1 : Bd (n + 1) (pmul D n P (lnf D a)) := by have := pmul_bd F (a := P) (lnf_bd D a) n; exact this
 have h2 : Bd (n + 1) (pmul D n P (lnf D b)) := by have := pmul_bd F (a := P) (lnf_bd D b) n; exact this
 rw [← pmul_to F (lnf D b) h1 (show n + 1 ≤ n + 2 by omega), ← pmul_to F (lnf D a) h2 (show n + 1 ≤ n + 2 by omega),pmul_assoc F (lnf_bd D a) n (n + 2) (Nat.le_refl _),pmul_assoc F (lnf_bd D b) n (n + 2) (Nat.le_refl _),pmul_comm F (lnf_el F ha) (lnf_el F hb) (lnf_bd D a) (lnf_bd D b)]
theorem prL_perm {D : FD} (F : Fld D) {l l' : List Nat} (h : l.Perm l') : (∀ r ∈ l,r < D.q) → prL D l = prL D l' := by
 induction h with
 | nil => intro _; rfl
 | cons x h ih =>
   intro hq
   show pmul D _ (prL D _) _ = pmul D _ (prL D _) _
   rw [ih (fun r hr => hq r (List.mem_cons_of_mem _ hr)),h.length_eq]
 | swap x y l =>
   intro hq
   show pmul D (l.length + 1 + 1) (pmul D (l.length + 1) (prL D l) (lnf D x)) (lnf D y) = pmul D (l.length + 1 + 1) (pmul D (l.length + 1) (prL D l) (lnf D y)) (lnf D x)
   exact lnf_swap F (hq x (by simp)) (hq y (by simp))
 | trans h1 h2 ih1 ih2 =>
   intro hq
   rw [ih1 hq,ih2 (fun r hr => hq r (h1.symm.subset hr))]
structure Rng (D : FD) (E : FD) (φ : Nat → Nat) : Prop where
 lt : ∀ a,a < D.q → φ a < E.q
 zero : φ 0 = 0
 one : φ 1 = 1
 ad : ∀ a b,a < D.q → b < D.q → φ (D.ad a b) = E.ad (φ a) (φ b)
 mul : ∀ a b,a < D.q → b < D.q → φ (D.mul a b) = E.mul (φ a) (φ b)
theorem Rng.ng {D E : FD} {φ : Nat → Nat} (FD' : Fld D) (FE : Fld E) (h : Rng D E φ) {a : Nat} (ha : a < D.q) : φ (D.ng a) = E.ng (φ a) := by
 have h1 : E.ad (φ a) (φ (D.ng a)) = 0 := by rw [← h.ad a _ ha (ng_lt FD' ha),ad_ng FD' ha,h.zero]
 have h2 : E.ad (φ a) (E.ng (φ a)) = 0 := ad_ng FE (h.lt a ha)
 exact ad_cancel FE (h.lt a ha) (h.lt _ (ng_lt FD' ha)) (ng_lt FE (h.lt a ha)) (h1.trans h2.symm)
theorem Rng.pmul {D E : FD} {φ : Nat → Nat} (FD' : Fld D) (FE : Fld E) (h : Rng D E φ) {a b : Nat → Nat} (ha : El D a) (hb : El D b) : ∀ n k,φ (pmul D n a b k) = pmul E n (fun i => φ (a i)) (fun i => φ (b i)) k
 | 0,k => h.zero
 | n + 1,k => by
   show φ (D.ad (Go.Proofs.YtppggchhkckobaaGreat.pmul D n a b k) (psh n (pscale D (a n) b) k)) = E.ad (Go.Proofs.YtppggchhkckobaaGreat.pmul E n (fun i => φ (a i)) (fun i => φ (b i)) k) (psh n (pscale E (φ (a n)) (fun i => φ (b i))) k)
   rw [h.ad _ _ (el_mul FD' a b n k) (el_sh FD' n (el_scale FD' _ _) k),h.pmul FD' FE ha hb n k]
   congr 1
   unfold psh pscale
   by_cases c : n ≤ k
   · rw [if_pos c,if_pos c]; exact h.mul _ _ (ha n) (hb _)
   · rw [if_neg c,if_neg c]; exact h.zero
theorem Rng.lnf {D E : FD} {φ : Nat → Nat} (FD' : Fld D) (FE : Fld E) (h : Rng D E φ) {r : Nat} (hr : r < D.q) : (fun k => φ (lnf D r k)) = lnf E (φ r) := by
 funext k
 unfold Go.Proofs.YtppggchhkckobaaGreat.lnf
 by_cases c : k = 0
 · rw [if_pos c,if_pos c]; exact h.ng FD' FE hr
 · rw [if_neg c,if_neg c]
   by_cases c2 : k = 1
   · rw [if_pos c2]; exact h.one
   · rw [if_neg c2]; exact h.zero
theorem Rng.prL {D E : FD} {φ : Nat → Nat} (FD' : Fld D) (FE : Fld E) (h : Rng D E φ) : ∀ l : List Nat,(∀ r ∈ l,r < D.q) → (fun k => φ (prL D l k)) = prL E (l.map φ)
 | [],_ => by
   funext k
   show φ (if k = 0 then 1 else 0) = if k = 0 then 1 else 0
   by_cases c : k = 0
   · rw [if_pos c]; exact h.one
   · rw [if_neg c]; exact h.zero
 | r :: l,hq => by
   have ih := h.prL FD' FE l (fun x hx => hq x (List.mem_cons_of_mem _ hx))
   have hr := hq r (by simp)
   funext k
   show φ (Go.Proofs.YtppggchhkckobaaGreat.pmul D (l.length + 1) (Go.Proofs.YtppggchhkckobaaGreat.prL D l) (Go.Proofs.YtppggchhkckobaaGreat.lnf D r) k) = Go.Proofs.YtppggchhkckobaaGreat.pmul E ((l.map φ).length + 1) (Go.Proofs.YtppggchhkckobaaGreat.prL E (l.map φ)) (Go.Proofs.YtppggchhkckobaaGreat.lnf E (φ r)) k
   rw [h.pmul FD' FE (prL_el FD' l) (lnf_el FD' hr),ih,h.lnf FD' FE hr,List.length_map]
theorem ev_lnf {D : FD} (F : Fld D) {r x : Nat} (hr : r < D.q) (hx : x < D.q) : D.ev (lnf D r) x 2 = D.sb x r := by
 show D.ad (D.ad 0 (D.mul (lnf D r 0) 1)) (D.mul (lnf D r 1) (D.mul 1 x)) = D.sb x r
 have e0 : lnf D r 0 = D.ng r := if_pos rfl
 have e1 : lnf D r 1 = 1 := by show (if 1 = 0 then _ else if 1 = 1 then 1 else 0) = 1; rw [if_neg (by omega),if_pos rfl]
 rw [e0,e1,mul1 F (ng_lt F hr),zero_ad F (ng_lt F hr),omul F hx,omul F hx,ad_comm F]
 rfl
theorem ev_prL {D : FD} (F : Fld D) {r x : Nat} {l : List Nat} (hr : r < D.q) (hx : x < D.q) : D.ev (prL D (r :: l)) x (l.length + 2) = D.mul (D.ev (prL D l) x (l.length + 1)) (D.sb x r) := by
 rw [← ev_lnf F hr hx, ← ev_mul F x (lnf_bd D r) (lnf_el F hr) (l.length + 1) (l.length + 3) (by omega)]
 exact (ev_from F x (n := l.length + 2) (N := l.length + 3) (prL_bd F (r :: l)) (by omega)).symm
theorem prL_root {D : FD} (F : Fld D) {x : Nat} (hx : x < D.q) : ∀ l : List Nat,(∀ r ∈ l,r < D.q) → x ∈ l → D.ev (prL D l) x (l.length + 1) = 0
 | r :: l,hq,h => by
   show D.ev (prL D (r :: l)) x (l.length + 2) = 0
   rw [ev_prL F (hq r (by simp)) hx]
   rcases List.mem_cons.1 h with e | h
   · rw [e,sb_self F (hq r (by simp)),mul0 F]
   · rw [prL_root F hx l (fun y hy => hq y (List.mem_cons_of_mem _ hy)) h,zmul F]
end Go.Proofs.YtppggchhkckobaaGreat
namespace Go.Proofs.YtppggchhkckobaaGreat
theorem one_pmul {D : FD} (F : Fld D) {b : Nat → Nat} (hb : El D b) : pmul D 1 pone b = b := by
 show padd D pnil (psh 0 (pscale D 1 b)) = b
 rw [psh_zero,pscale_one F hb,nil_padd F hb]
theorem prL_app {D : FD} (F : Fld D) : ∀ l1 l2 : List Nat,(∀ r ∈ l1,r < D.q) → prL D (l1 ++ l2) = pmul D (l1.length + 1) (prL D l1) (prL D l2)
 | [],l2,_ => (one_pmul F (prL_el F l2)).symm
 | r :: l1,l2,hq => by
   have hr := hq r (by simp)
   show pmul D ((l1 ++ l2).length + 1) (prL D (l1 ++ l2)) (lnf D r) = pmul D (l1.length + 1 + 1) (pmul D (l1.length + 1) (prL D l1) (lnf D r)) (prL D l2)
   rw [prL_app F l1 l2 (fun x hx => hq x (List.mem_cons_of_mem _ hx)),List.length_append]
   have b1 : Bd (l1.length + l2.length + 1) (pmul D (l1.length + 1) (prL D l1) (prL D l2)) := by
     have := pmul_bd F (a := prL D l1) (prL_bd F l2) (l1.length + 1)
     rwa [show l1.length + 1 + (l2.length + 1) - 1 = l1.length + l2.length + 1 by omega] at this
   have b2 : Bd (l1.length + 1 + 1) (pmul D (l1.length + 1) (prL D l1) (lnf D r)) := by
     have := pmul_bd F (a := prL D l1) (lnf_bd D r) (l1.length + 1)
     exact this
   rw [← pmul_to F (lnf D r) b1 (show l1.length + l2.length + 1 ≤ l1.length + 1 + (l2.length + 1) + 1 by omega),pmul_assoc F (prL_bd F l2) (l1.length + 1) _ (by omega),pmul_comm F (prL_el F l2) (lnf_el F hr) (prL_bd F l2) (lnf_bd D r),
     ← pmul_to F (prL D l2) b2 (show l1.length + 1 + 1 ≤ l1.length + 1 + 2 by omega),pmul_assoc F (lnf_bd D r) (l1.length + 1) _ (Nat.le_refl _)]
theorem ev_whl {D : FD} (F : Fld D) {x n : Nat} (hn : 1 ≤ n) : D.ev (whl D n) x (n + 1) = D.sb (D.xp x n) 1 := by
 have h : ∀ k,1 ≤ k → k ≤ n → D.ev (whl D n) x k = D.ng 1 := fun k => by
   induction k with
   | zero => intro h; omega
   | succ k ih =>
     intro _ hk
     show D.ad (D.ev (whl D n) x k) (D.mul (whl D n k) (D.xp x k)) = D.ng 1
     by_cases c : k = 0
     · subst c
       have e : whl D n 0 = D.ng 1 := by unfold whl; rw [if_neg (by omega),if_pos rfl]
       rw [e]
       show D.ad 0 (D.mul (D.ng 1) 1) = D.ng 1
       rw [mul1 F (ng_lt F (one_lt' F)),zero_ad F (ng_lt F (one_lt' F))]
     · have e : whl D n k = 0 := by unfold whl; rw [if_neg (by omega),if_neg c]
       rw [e,zmul F,ih (by omega) (by omega),ad_zero F (ng_lt F (one_lt' F))]
 show D.ad (D.ev (whl D n) x n) (D.mul (whl D n n) (D.xp x n)) = D.sb (D.xp x n) 1
 have e : whl D n n = 1 := by unfold whl; rw [if_pos rfl]
 rw [h n hn (Nat.le_refl _),e,omul F (xp_lt F x n),ad_comm F]
 rfl
theorem ct_full {p : Nat → Bool} (n : Nat) (h : ∀ i,i < n → p i = true) : ct p n = n := by
 have h1 := ct_not p n
 have h2 : ct (fun i => !p i) n = 0 := ct_none n (fun i hi => by show (!p i) = false; rw [h i hi]; rfl)
 omega
theorem xp_xp {D : FD} (hD : D ∈ fieldsL) {b : Nat} (h0 : b ≠ 0) (i n : Nat) : D.xp (D.xp b i) n = D.xp b (i * n) := by
 rw [← pw_xp hD h0, ← pw_xp hD (pw_ne hD b i).1,pw_pw hD,pw_xp hD h0]
theorem one_xp {D : FD} (F : Fld D) : ∀ k,D.xp 1 k = 1
 | 0 => rfl
 | k + 1 => by show D.mul (D.xp 1 k) 1 = 1; rw [one_xp F k,mul1 F (one_lt' F)]
structure Rt (D : FD) (b n : Nat) : Prop where
 lt : b < D.q
 ne : b ≠ 0
 one : D.xp b n = 1
 inj : ∀ i j,i < n → j < n → i ≠ j → D.xp b i ≠ D.xp b j
theorem Rt.md {D : FD} (hD : D ∈ fieldsL) {b n : Nat} (h : Rt D b n) (k : Nat) : D.xp b (k % n) = D.xp b k := by
 have e := Nat.div_add_mod k n
 have F := fld hD
 rw [← e,xp_add F, ← xp_xp hD h.ne,h.one,one_xp F,omul F (xp_lt F b _),Nat.mul_add_mod,Nat.mod_mod]
theorem whl_all {D : FD} (hD : D ∈ fieldsL) {b n : Nat} (hn : 1 ≤ n) (h : Rt D b n) : whl D n = prL D ((List.range n).map (D.xp b)) := by
 have F := fld hD
 have hq : ∀ r ∈ (List.range n).map (D.xp b),r < D.q := fun r hr => by
   obtain ⟨k,_,rfl⟩ := List.mem_map.1 hr
   exact xp_lt F b k
 have hlen : ((List.range n).map (D.xp b)).length = n := by rw [List.length_map,List.length_range]
 have eP := prL_el F ((List.range n).map (D.xp b))
 have bP := prL_bd F ((List.range n).map (D.xp b))
 have tP := prL_top F ((List.range n).map (D.xp b))
 rw [hlen] at bP tP
 have hrt : ∀ x ∈ (List.range n).map (D.xp b),D.ev (prL D ((List.range n).map (D.xp b))) x (n + 1) = 0 := fun x hx => by
   have := prL_root F (hq x hx) _ hq hx
   rwa [hlen] at this
 obtain ⟨P,hP⟩ : ∃ P,P = prL D ((List.range n).map (D.xp b)) := ⟨_,rfl⟩
 rw [← hP] at eP bP tP hrt ⊢
 have eW := whl_el F n
 refine psub_eq_nil F eW eP ?_
 have eS := el_sub F eW eP
 have bS : Bd n (psub D (whl D n) P) := fun k hk => by
   show D.sb (whl D n k) (P k) = 0
   by_cases c : k = n
   · have e : whl D n n = 1 := by unfold whl; rw [if_pos rfl]
     rw [c,e,tP]; exact sb_self F (one_lt' F)
   · rw [whl_bd k (by omega),bP k (by omega)]; exact sb_self F (zero_lt' F)
 refine Classical.byContradiction fun hne => ?_
 have hlt := few_roots F (xs := D.xp b) (n := n) (fun i _ => xp_lt F b i) (fun i j hi hj c => h.inj i j hi hj c) n eS bS hne
 rw [ct_full n (fun i hi => ?_)] at hlt
 · omega
 · refine decide_eq_true ?_
   have hmem : D.xp b i ∈ (List.range n).map (D.xp b) := List.mem_map.2 ⟨i,List.mem_range.2 hi,rfl⟩
   have e1 : D.ev (whl D n) (D.xp b i) (n + 1) = 0 := by
     rw [ev_whl F hn,xp_xp hD h.ne,Nat.mul_comm, ← xp_xp hD h.ne,h.one,one_xp F]
     exact sb_self F (one_lt' F)
   have e2 := hrt _ hmem
   have e3 : D.ev (padd D P (psub D (whl D n) P)) (D.xp b i) (n + 1) = D.ev (whl D n) (D.xp b i) (n + 1) := by rw [psub_add F eW eP]
   rw [ev_add F _ eP eS,e2,e1,zero_ad F (ev_lt F _ _ _)] at e3
   rw [ev_from F _ bS (show n ≤ n + 1 by omega)] at e3
   exact e3
end Go.Proofs.YtppggchhkckobaaGreat
