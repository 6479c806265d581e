/- Texts of ours, one behind the other: L1 L2 L3 L4 L5 L6 L7 W8 L8. -/
import Derived.Test.YtppggchhkckobaaGreatZV11
import Derived.Test.YtppggchhkckobaaGreatZR17
import Derived.Test.YtppggchhkckobaaGreatZR10
namespace Go.Proofs.YtppggchhkckobaaGreat
open Go.RowKit
set_option maxHeartbeats 2000000 in
theorem list_err2 (e : Int) (he : e ≠ 0) (ao : Option Addr) (ca : Nat) (vb : Value) (w : World) :
   Calls Tryz.prog 12 #[.slice ao 0 ca, .int .i64 e,vb, .int .i64 e] w fun r w' => r = .returned (.bool true) ∧ w' = w := by
 have h1 : (e != 0) = true := bne_iff_ne.2 he
 go_enter Tryz.func12,Tryz.ntmps12
 go_wp2
 go_ret
 exact ⟨rfl,rfl⟩
set_option maxHeartbeats 2000000 in
theorem lists_err2 (e : Int) (he : e ≠ 0) (ao : Option Addr) (ca : Nat) (vb : Value) (w : World) :
   Calls Tryz.prog 9 #[.slice ao 0 ca, .int .i64 e,vb, .int .i64 e] w fun r w' => r = .returned (.bool true) ∧ w' = w := by
 have h1 : (e != 0) = true := bne_iff_ne.2 he
 go_enter Tryz.func9,Tryz.ntmps9
 go_wp2
 go_ret
 exact ⟨rfl,rfl⟩
set_option maxHeartbeats 2000000 in
theorem num_err (e : Int) (he : e ≠ 0) (b : Int) (w : World) :
   Calls Tryz.prog 15 #[.int .i64 0, .int .i64 e, .int .i64 b, .int .i64 e] w fun r w' => r = .returned (.bool true) ∧ w' = w := by
 have h1 : (e != 0) = true := bne_iff_ne.2 he
 go_enter Tryz.func15,Tryz.ntmps15
 go_wp2
 go_ret
 exact ⟨rfl,rfl⟩
set_option maxHeartbeats 2000000 in
theorem num_same (a : Int) (w : World) :
   Calls Tryz.prog 15 #[.int .i64 a, .int .i64 0, .int .i64 a, .int .i64 0] w fun r w' => r = .returned (.bool true) ∧ w' = w := by
 go_enter Tryz.func15,Tryz.ntmps15
 go_wp2
 go_ret
 exact ⟨by simp,rfl⟩
theorem rfield_sl {D : FD} (hD : D ∈ fieldsL) (w : World) :
   Calls Tryz.prog 33 #[.int .i64 D.q] w fun e w' => ∃ gm cm,e = .returned (.tuple #[rf D.q D.p D.m D.gen (.slice (some ⟨gm,0,none⟩) (D.m + 1) cm), .int .i64 0]) ∧ ModAt D (.slice (some ⟨gm,0,none⟩) (D.m + 1) cm) D.md w' ∧ Below w.heap.size w w' := by
 refine (rfield_any hD w).mono ?_
 rintro e w' ⟨v,rfl,hown,hmod,hb⟩
 obtain ⟨gm,cm,fm,rfl,_⟩ := hown.row (D.m + 1) modL_len' (by have := (fld hD).m6; omega)
 exact ⟨gm,cm,rfl,hmod,hb⟩
end Go.Proofs.YtppggchhkckobaaGreat
namespace Go.Proofs.YtppggchhkckobaaGreat
open Go.RowKit Go.Sort
theorem has_of_lt {D : FD} {x : Nat} (h : x < D.q) : D.has (x : Int) = true := by
 unfold FD.has; simp; omega
theorem zl_mem {n : Nat} {z : Nat → Int} {x : Int} : x ∈ zl n z ↔ ∃ j,j < n ∧ z j = x := by
 unfold zl
 rw [List.mem_map]
 constructor
 · rintro ⟨j,hj,e⟩
   exact ⟨j,List.mem_range.1 hj,e⟩
 · rintro ⟨j,hj,e⟩
   exact ⟨j,List.mem_range.2 hj,e⟩
end Go.Proofs.YtppggchhkckobaaGreat
namespace Go.Proofs.YtppggchhkckobaaGreat
open Go.RowKit
end Go.Proofs.YtppggchhkckobaaGreat
namespace Go.Proofs.YtppggchhkckobaaGreat
open Go.RowKit Go.Sort
end Go.Proofs.YtppggchhkckobaaGreat
