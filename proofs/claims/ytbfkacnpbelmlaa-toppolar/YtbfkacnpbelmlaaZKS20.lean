/- Polar: the closure of Decode. -/
import Derived.Test.YtbfkacnpbelmlaaZKS19
import Derived.Test.YtbfkacnpbelmlaaZX17
import Derived.Test.YtbfkacnpbelmlaaZW10
namespace Go.Proofs.Ytbfkacnpbelmlaa
open Go.RowKit Go.Sort

/-- What a step of Decode leaves: all but the place's cell, the message's, and the message's memory. -/
structure Frm (P M : Nat) (v : Value) (w : World) (v' : Value) (w' : World) : Prop where
  os : w'.os = w.os
  tape : w'.tape = w.tape
  output : w'.output = w.output
  size : w.heap.size ≤ w'.heap.size
  keep : ∀ i, i < w.heap.size → i ≠ P → i ≠ M → v.ownBlock ≠ some i → w'.heap[i]? = w.heap[i]?
  own : ∀ i, v'.ownBlock = some i → v.ownBlock = some i ∨ w.heap.size ≤ i
theorem Frm.trans {P M : Nat} {v v1 v2 : Value} {w w1 w2 : World} (h : Frm P M v w v1 w1) (k : Frm P M v1 w1 v2 w2) : Frm P M v w v2 w2 :=
  ⟨k.os.trans h.os, k.tape.trans h.tape, k.output.trans h.output, Nat.le_trans h.size k.size,
    fun i hi hP hM hv => (k.keep i (Nat.lt_of_lt_of_le hi h.size) hP hM (fun e => (h.own i e).elim hv (fun e => absurd e (by omega)))).trans (h.keep i hi hP hM hv),
    fun i e => (k.own i e).elim (fun e => h.own i e) (fun e => Or.inr (Nat.le_trans h.size e))⟩
theorem Frm.of_below {P M : Nat} {v : Value} {w w' : World} (h : Below w.heap.size w w') : Frm P M v w v w' :=
  ⟨h.os, h.tape, h.output, h.size, fun i hi _ _ _ => h.block i hi, fun _ e => Or.inl e⟩
theorem Frm.below {P M S : Nat} {v v' : Value} {w w' : World} (h : Frm P M v w v' w') (hP : S ≤ P) (hM : S ≤ M) (hv : ∀ i, v.ownBlock = some i → S ≤ i) (hS : S ≤ w.heap.size) : Below S w w' :=
  ⟨h.os, h.tape, h.output, h.size, fun i hi => h.keep i (by omega) (by omega) (by omega) (fun e => by have := hv i e; omega)⟩
/-- How Decode's own blocks lie. -/
structure Fx (S T P B M : Nat) (bo : Option Addr) : Prop where
  sm : S ≤ M
  mb : M < B
  bp : B < P
  pt : P < T
  bo1 : ∀ a, bo = some a → M < a.block ∧ a.block < B
/-- Decode's variables when q bits are read and L is their message so far. -/
structure Cls (T P B M k : Nat) (bo : Option Addr) (bc : Nat) (p : Nat → Int) (q : Nat) (v : Value) (L : List Int) (w : World) : Prop where
  cp : w.cell? ⟨P, 0, none⟩ = some (.int .i64 ((q : Int) - 1))
  fp : w.frozen? ⟨P, 0, none⟩ = false
  cb : w.cell? ⟨B, 0, none⟩ = some (.slice bo k bc)
  sb : SlZ bo k p w
  cm : w.cell? ⟨M, 0, none⟩ = some v
  fm : w.frozen? ⟨M, 0, none⟩ = false
  own : OwnI T v L w
  size : T ≤ w.heap.size
theorem cell_blk {w w' : World} {a : Addr} (h : w'.heap[a.block]? = w.heap[a.block]?) : w'.cell? a = w.cell? a := World.cell?_of_block h
theorem froz_blk {w w' : World} {a : Addr} (h : w'.heap[a.block]? = w.heap[a.block]?) : w'.frozen? a = w.frozen? a := World.frozen?_of_block h
theorem Cls.below {S T P B M k : Nat} {bo : Option Addr} {bc : Nat} {p : Nat → Int} {q : Nat} {v : Value} {L : List Int} {w w' : World} (hF : Fx S T P B M bo) (h : Cls T P B M k bo bc p q v L w) (hb : Below w.heap.size w w') : Cls T P B M k bo bc p q v L w' := by
  have h1 := hF.mb
  have h2 := hF.bp
  have h3 := hF.pt
  have h4 := h.size
  have e : ∀ i, i < T → w'.heap[i]? = w.heap[i]? := fun i hi => hb.block i (by omega)
  exact ⟨(cell_blk (e P h3)).trans h.cp, (froz_blk (e P h3)).trans h.fp, (cell_blk (e B (by omega))).trans h.cb,
    fun j hj => by
      obtain ⟨b, off, e1, e2⟩ := h.sb j hj
      exact ⟨b, off, e1, (cell_blk (a := ⟨b, off + j, none⟩) (e b (by have := hF.bo1 _ e1; dsimp only at this; omega))).trans e2⟩,
    (cell_blk (e M (by omega))).trans h.cm, (froz_blk (e M (by omega))).trans h.fm, h.own.below hb (fun i hi => (h.own.lt i hi).2), by have := hb.size; omega⟩
/-- A store into the place's cell. -/
theorem Cls.next {S T P B M k : Nat} {bo : Option Addr} {bc : Nat} {p : Nat → Int} {q : Nat} {v : Value} {L : List Int} {w : World} (hF : Fx S T P B M bo) (h : Cls T P B M k bo bc p q v L w) : Cls T P B M k bo bc p (q + 1) v L (w.setCell ⟨P, 0, none⟩ (.int .i64 (q : Nat))) ∧ Frm P M v w v (w.setCell ⟨P, 0, none⟩ (.int .i64 (q : Nat))) := by
  have h1 := hF.mb
  have h2 := hF.bp
  have h3 := hF.pt
  have h4 := h.size
  have e : ∀ i, i ≠ P → (w.setCell ⟨P, 0, none⟩ (.int .i64 (q : Nat))).heap[i]? = w.heap[i]? := fun i hi => Below.heap_setCell w _ _ i hi
  refine ⟨⟨?_, ?_, (cell_blk (e B (by omega))).trans h.cb,
    fun j hj => by
      obtain ⟨b, off, e1, e2⟩ := h.sb j hj
      exact ⟨b, off, e1, (cell_blk (a := ⟨b, off + j, none⟩) (e b (by have := hF.bo1 _ e1; dsimp only at this; omega))).trans e2⟩,
    (cell_blk (e M (by omega))).trans h.cm, (froz_blk (e M (by omega))).trans h.fm, h.own.same (fun i hi => e i (by have := (h.own.lt i hi).1; omega)), by simp [World.setCell]; omega⟩, rfl, rfl, rfl, by simp [World.setCell], fun i _ hi _ _ => e i hi, fun _ e => Or.inl e⟩
  · rw [World.cell?_setCell_same _ _ _ h.cp]; congr 2; omega
  · rw [World.frozen?_setCell]; exact h.fp
/-- The message's cell is laid anew, behind an append. -/
theorem Cls.put {S T P B M k : Nat} {bo : Option Addr} {bc : Nat} {p : Nat → Int} {q : Nat} {v v' : Value} {L L' : List Int} {w w' : World} (hF : Fx S T P B M bo) (h : Cls T P B M k bo bc p q v L w) (ho : OwnI T v' L' w') (hg : w.grownBy w' v.ownBlock) (ha : ∀ i, v'.ownBlock = some i → v.ownBlock = some i ∨ w.heap.size ≤ i) :
    Cls T P B M k bo bc p q v' L' (w'.setCell ⟨M, 0, none⟩ v') ∧ Frm P M v w v' (w'.setCell ⟨M, 0, none⟩ v') := by
  have h1 := hF.mb
  have h2 := hF.bp
  have h3 := hF.pt
  have h4 := h.size
  have h5 := hg.size
  have hv : ∀ i, i < T → some i ≠ v.ownBlock := fun i hi e => by have := (h.own.lt i e.symm).1; omega
  have e0 : ∀ i, i < T → w'.heap[i]? = w.heap[i]? := fun i hi => hg.block i (by omega) (hv i hi)
  have e : ∀ i, i < T → i ≠ M → (w'.setCell ⟨M, 0, none⟩ v').heap[i]? = w.heap[i]? := fun i hi hm => (Below.heap_setCell w' _ _ i hm).trans (e0 i hi)
  refine ⟨⟨(cell_blk (e P h3 (by omega))).trans h.cp, (froz_blk (e P h3 (by omega))).trans h.fp, (cell_blk (e B (by omega) (by omega))).trans h.cb,
    fun j hj => by
      obtain ⟨b, off, e1, e2⟩ := h.sb j hj
      have hb := hF.bo1 _ e1
      dsimp only at hb
      exact ⟨b, off, e1, (cell_blk (a := ⟨b, off + j, none⟩) (e b (by omega) (by omega))).trans e2⟩,
    World.cell?_setCell_same _ _ _ ((cell_blk (a := ⟨M, 0, none⟩) (e0 M (by omega))).trans h.cm), ?_, ho.same (fun i hi => Below.heap_setCell w' _ _ i (by have := (ho.lt i hi).1; show i ≠ M; omega)), by simp [World.setCell]; omega⟩, hg.os, hg.tape, hg.output, by simp [World.setCell]; exact h5, fun i hi _ hM hv => (Below.heap_setCell w' _ _ i hM).trans (hg.block i hi (fun e => hv e.symm)), ha⟩
  rw [World.frozen?_setCell]
  exact (froz_blk (a := ⟨M, 0, none⟩) (e0 M (by omega))).trans h.fm

set_option maxHeartbeats 4000000 in
set_option maxRecDepth 100000 in
theorem dec1_out {S T P B M k : Nat} {bo : Option Addr} {bc : Nat} {p : Nat → Int} {q : Nat} {v : Value} {L : List Int} {w : World} (hF : Fx S T P B M bo) (h : Cls T P B M k bo bc p q v L w) (hq : q ≤ 64) (hk : k ≤ 64) (hn : ¬ (q : Int) ∈ zl k p) (u : Int) :
    Calls Try.prog 37 #[.int .i64 u, .pointer (some ⟨P, 0, none⟩), .pointer (some ⟨B, 0, none⟩), .pointer (some ⟨M, 0, none⟩)] w fun e w' => e = .returned (.tuple #[.int .i64 0, .bool (u != 1)]) ∧ Cls T P B M k bo bc p (q + 1) v L w' ∧ Frm P M v w v w' := by
  have h1 := h.next hF
  obtain ⟨w1, hw1⟩ : ∃ w1, w1 = w.setCell ⟨P, 0, none⟩ (.int .i64 (q : Nat)) := ⟨_, rfl⟩
  rw [← hw1] at h1
  have HC : Hid (Calls Try.prog 38 #[.slice bo k bc, .int .i64 (q : Nat)] w1 fun e w' => e = .returned (.bool false) ∧ w' = w1) := by
    have := contains_any (ca := bc) (q : Int) h1.1.sb (by omega)
    rw [decide_eq_false hn] at this; exact this
  have c1 := h.cp
  have c2 := h.fp
  have c3 := h1.1.cb
  have c4 := h1.1.cp
  rw [show ((q + 1 : Nat) : Int) - 1 = (q : Int) by omega] at c4
  obtain ⟨z, hz⟩ : ∃ z, z = (q : Int) - 1 := ⟨_, rfl⟩
  rw [← hz] at c1
  have hz1 : z + 1 = (q : Int) := by omega
  have hqw : IntKind.i64.wrap (q : Int) = (q : Int) := wrap_to rfl (by omega)
  have H1 : Hid (Cls T P B M k bo bc p (q + 1) v L w1 ∧ Frm P M v w v w1) := h1
  rw [hw1] at c3 c4
  clear h h1 hn hz hF
  go_enter Try.func37, Try.ntmps37
  go_wp2_with fail
  rw [← hw1]
  clear c1 c2 c3 c4 hw1
  refine HC.out.mono ?_
  rintro e w' ⟨rfl, hw⟩
  have hw := hw.symm
  subst hw
  go_wp2
  go_ret2
  exact ⟨rfl, H1.out⟩

theorem dec1_put {S T P B M k : Nat} {bo : Option Addr} {bc : Nat} {p : Nat → Int} {q : Nat} {v v' : Value} {L L' : List Int} {w w1 w' : World} (hF : Fx S T P B M bo) (h : Cls T P B M k bo bc p q v L w1) (hr : Frm P M v w v w1) (ho : OwnI T v' L' w') (hg : w1.grownBy w' v.ownBlock) (ha : v'.ownBlock = v.ownBlock ∨ v'.ownBlock = some w1.heap.size) :
    Hid (w'.cell? ⟨M, 0, none⟩ = some v ∧ w'.frozen? ⟨M, 0, none⟩ = false ∧ Cls T P B M k bo bc p q v' L' (w'.setCell ⟨M, 0, none⟩ v') ∧ Frm P M v w v' (w'.setCell ⟨M, 0, none⟩ v')) := by
  have h1 := hF.mb
  have h2 := hF.bp
  have h3 := hF.pt
  have h4 := h.size
  have hv : some M ≠ v.ownBlock := fun e => by have := (h.own.lt M e.symm).1; omega
  have e0 : w'.heap[M]? = w1.heap[M]? := hg.block M (by omega) hv
  have h9 := h.put hF ho hg (fun i e => ha.elim (fun k => Or.inl (k.symm.trans e)) (fun k => Or.inr (by rw [k] at e; cases e; exact Nat.le_refl _)))
  exact ⟨(cell_blk (a := ⟨M, 0, none⟩) e0).trans h.cm, (froz_blk (a := ⟨M, 0, none⟩) e0).trans h.fm, h9.1, hr.trans h9.2⟩

set_option maxHeartbeats 4000000 in
set_option maxRecDepth 100000 in
theorem dec1_in {S T P B M k : Nat} {bo : Option Addr} {bc : Nat} {p : Nat → Int} {q : Nat} {v : Value} {L : List Int} {w : World} (hF : Fx S T P B M bo) (h : Cls T P B M k bo bc p q v L w) (hq : q ≤ 64) (hk : k ≤ 64) (hL : L.length ≤ 64) (hn : (q : Int) ∈ zl k p) (u : Int) :
    Calls Try.prog 37 #[.int .i64 u, .pointer (some ⟨P, 0, none⟩), .pointer (some ⟨B, 0, none⟩), .pointer (some ⟨M, 0, none⟩)] w fun e w' => ∃ v', e = .returned (.tuple #[.int .i64 u, .bool (u != -1)]) ∧ Cls T P B M k bo bc p (q + 1) v' (L ++ [u]) w' ∧ Frm P M v w v' w' := by
  have h1 := h.next hF
  obtain ⟨w1, hw1⟩ : ∃ w1, w1 = w.setCell ⟨P, 0, none⟩ (.int .i64 (q : Nat)) := ⟨_, rfl⟩
  rw [← hw1] at h1
  have HC : Hid (Calls Try.prog 38 #[.slice bo k bc, .int .i64 (q : Nat)] w1 fun e w' => e = .returned (.bool true) ∧ w' = w1) := by
    have := contains_any (ca := bc) (q : Int) h1.1.sb (by omega)
    rw [decide_eq_true hn] at this; exact this
  have c1 := h.cp
  have c2 := h.fp
  have c3 := h1.1.cb
  have c4 := h1.1.cp
  rw [show ((q + 1 : Nat) : Int) - 1 = (q : Int) by omega] at c4
  obtain ⟨z, hz⟩ : ∃ z, z = (q : Int) - 1 := ⟨_, rfl⟩
  rw [← hz] at c1
  have hz1 : z + 1 = (q : Int) := by omega
  have hqw : IntKind.i64.wrap (q : Int) = (q : Int) := wrap_to rfl (by omega)
  have H1 : Hid ((Cls T P B M k bo bc p (q + 1) v L w1 ∧ Frm P M v w v w1) ∧ Fx S T P B M bo) := ⟨h1, hF⟩
  rw [hw1] at c3 c4
  clear h h1 hn hz hF
  go_enter Try.func37, Try.ntmps37
  go_wp2_with fail
  rw [← hw1]
  clear c1 c2 c3 c4 hw1
  refine HC.out.mono ?_
  rintro e w' ⟨rfl, hw⟩
  have hw := hw.symm
  subst hw
  have d1 := H1.out.1.1.cm
  have d2 := H1.out.1.1.fm
  have hM : M < w1.heap.size := by
    have := H1.out.2.mb
    have := H1.out.2.bp
    have := H1.out.2.pt
    have := H1.out.1.1.size
    omega
  have H2 : Hid (Cls T P B M k bo bc p (q + 1) v L (w1.alloc (.cells #[.int .i64 u] 3)) ∧ Frm P M v w v (w1.alloc (.cells #[.int .i64 u] 3))) := by
    have hb : Below w1.heap.size w1 (w1.alloc (.cells #[.int .i64 u] 3)) := (Below.refl _ _).alloc (Nat.le_refl _) _
    exact ⟨H1.out.1.1.below H1.out.2 hb, H1.out.1.2.trans (Frm.of_below hb)⟩
  clear HC
  go_wp2_with (at_builtin; refine append_int_at rfl _ _ rfl T v L rfl H2.out.1.own ⟨_, 0, none⟩ 1 u rfl (by simp) (by omega) H2.out.1.size ?_; intro v5 w5 hown5 hgrow5 hat5; obtain ⟨a5, c5, e5⟩ := own_form hown5; rw [List.length_append, List.length_singleton] at e5; subst e5; have H5 := dec1_put H1.out.2 H2.out.1 H2.out.2 hown5 hgrow5 hat5; have k1 := H5.out.1; have k2 := H5.out.2.1; clear hown5 hgrow5 hat5)
  go_ret2
  exact ⟨_, rfl, H5.out.2.2⟩
end Go.Proofs.Ytbfkacnpbelmlaa
