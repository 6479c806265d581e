/- Polar: read. -/
import Derived.Test.YtbfkacnpbelmlaaZKS20
import Derived.Shelf.Abstract
namespace Go.Proofs.Ytbfkacnpbelmlaa
open Go.RowKit Go.Sort

/-- A part where it lies: each a bit, or lost. -/
def Prt (b off n : Nat) (x : Nat → Int) (w : World) : Prop := b < w.heap.size ∧ (∀ i, i < n → w.cell? ⟨b, off + i, none⟩ = some (.int .i64 (x i))) ∧ ∀ i, i < n → Btl (x i)
theorem Prt.slz {b off n : Nat} {x : Nat → Int} {w : World} (h : Prt b off n x w) : SlZ (some ⟨b, off, none⟩) n x w := fun i hi => ⟨b, off, rfl, h.2.1 i hi⟩
theorem Prt.same {b off n : Nat} {x : Nat → Int} {w w' : World} (h : Prt b off n x w) (e : w'.heap[b]? = w.heap[b]?) (hs : w.heap.size ≤ w'.heap.size) : Prt b off n x w' := ⟨Nat.lt_of_lt_of_le h.1 hs, fun i hi => (cell_blk (a := ⟨b, off + i, none⟩) e).trans (h.2.1 i hi), h.2.2⟩
theorem Prt.lo {b off n : Nat} {x : Nat → Int} {w : World} (h : Prt b off n x w) {k : Nat} (hk : k ≤ n) : Prt b off k x w := ⟨h.1, fun i hi => h.2.1 i (by omega), fun i hi => h.2.2 i (by omega)⟩
theorem Prt.hi {b off n : Nat} {x : Nat → Int} {w : World} (h : Prt b off n x w) {k d : Nat} (hk : k + d ≤ n) : Prt b (off + k) d (fun i => x (k + i)) w := ⟨h.1, fun i hi => by have := h.2.1 (k + i) (by omega); rw [show off + (k + i) = off + k + i by omega] at this; exact this, fun i hi => h.2.2 (k + i) (by omega)⟩
/-- What read leaves where it tells. -/
def RdS (T P B M k : Nat) (bo : Option Addr) (bc : Nat) (p : Nat → Int) (N q : Nat) (v : Value) (L : List Int) (w : World) (r : (Nat → Int) × (Nat → Int)) (vs : Value) (w' : World) : Prop :=
  ∃ v' s, OwnI s vs (zl N r.2) w' ∧ w.heap.size ≤ s ∧ (∀ i, v'.ownBlock = some i → i < s) ∧ Cls T P B M k bo bc p (q + N) v' (L ++ msl (fun j => decide ((j : Int) ∈ zl k p)) r.1 q N) w' ∧ Frm P M v w v' w'
/-- The message's cell may be stored into. -/
def MC (M : Nat) (w : World) : Prop := (∃ u, w.cell? ⟨M, 0, none⟩ = some u) ∧ w.frozen? ⟨M, 0, none⟩ = false
theorem Cls.mc {T P B M k : Nat} {bo : Option Addr} {bc : Nat} {p : Nat → Int} {q : Nat} {v : Value} {L : List Int} {w : World} (h : Cls T P B M k bo bc p q v L w) : MC M w := ⟨⟨v, h.cm⟩, h.fm⟩
/-- What read answers. -/
def RdQ (S T P B M k : Nat) (bo : Option Addr) (bc : Nat) (p : Nat → Int) (N q : Nat) (v : Value) (L : List Int) (w : World) (o : Option ((Nat → Int) × (Nat → Int))) (e : Ending) (w' : World) : Prop :=
  Below S w w' ∧ MC M w' ∧ ∃ vs, e = .returned (.tuple #[vs, .bool o.isSome]) ∧ ∀ r, o = some r → RdS T P B M k bo bc p N q v L w r vs w'

set_option maxHeartbeats 4000000 in
set_option maxRecDepth 100000 in
theorem read1_any {gf : Nat} {lb : Array Value} (eg : ∀ args w, (callFunc gf args).run Try.prog w = .ok (.enter gf args) w) {b off c : Nat} {a : Int} {w : World} (hc : w.cell? ⟨b, off, none⟩ = some (.int .i64 a)) {G : Int → Bool → World → Prop}
    (hcall : Calls Try.prog gf (#[.int .i64 a] ++ lb) w fun e w' => ∃ y ok, e = .returned (.tuple #[.int .i64 y, .bool ok]) ∧ G y ok w') :
    Calls Try.prog 39 #[.slice (some ⟨b, off, none⟩) 1 c, .func (.func gf) #[] lb] w fun e w' => ∃ y ok w1, G y ok w1 ∧ e = .returned (.tuple #[.slice (some ⟨w1.heap.size, 0, none⟩) 1 1, .bool ok]) ∧ w' = w1.alloc (.cells #[.int .i64 y] 3) := by
  go_enter Try.func39, Try.ntmps39
  go_wp2_with (go_at_fn gf; refine hcall.mono ?_; rintro e w1 ⟨y, ok, rfl, hG⟩; have HG : Hid (G y ok w1) := hG; clear hG hc)
  go_ret2
  exact ⟨y, ok, w1, HG.out, rfl, rfl⟩
theorem enters_dec1 : ∀ args w, (callFunc 37 args).run Try.prog w = .ok (.enter 37 args) w :=
  enters_of Try.func37 (by kernel_rfl) rfl
theorem Cls.bel {S T P B M k : Nat} {bo : Option Addr} {bc : Nat} {p : Nat → Int} {q : Nat} {v v' : Value} {L : List Int} {w w' : World} (hF : Fx S T P B M bo) (h : Cls T P B M k bo bc p q v L w) (hr : Frm P M v w v' w') : Below S w w' := by
  have h1 := hF.sm
  have h2 := hF.mb
  have h3 := hF.bp
  have h4 := hF.pt
  have h5 := h.size
  exact hr.below (by omega) h1 (fun i e => by have := (h.own.lt i e).1; omega) (by omega)

theorem read_zero {S T P B M k : Nat} {bo : Option Addr} {bc : Nat} {p : Nat → Int} (hF : Fx S T P B M bo) (hk : k ≤ 64) {q b off c : Nat} {x : Nat → Int} {v : Value} {L : List Int} {w : World} (hq : q + 1 ≤ 64) (hL : L.length ≤ q) (hP : Prt b off 1 x w) (hC : Cls T P B M k bo bc p q v L w) :
    Calls Try.prog 39 #[.slice (some ⟨b, off, none⟩) 1 c, .func (.func 37) #[] #[.pointer (some ⟨P, 0, none⟩), .pointer (some ⟨B, 0, none⟩), .pointer (some ⟨M, 0, none⟩)]] w
      (RdQ S T P B M k bo bc p 1 q v L w (rdp (fun j => decide ((j : Int) ∈ zl k p)) 0 q x)) := by
  have hc : w.cell? ⟨b, off, none⟩ = some (.int .i64 (x 0)) := hP.2.1 0 (by omega)
  have hba : ∀ (w1 : World) (y : Int), Below w1.heap.size w1 (w1.alloc (.cells #[.int .i64 y] 3)) := fun w1 y => (Below.refl _ _).alloc (Nat.le_refl _) _
  by_cases hn : (q : Int) ∈ zl k p
  · refine (read1_any enters_dec1 (c := c) hc (G := fun y ok w1 => y = x 0 ∧ ok = (x 0 != -1) ∧ ∃ v', Cls T P B M k bo bc p (q + 1) v' (L ++ [x 0]) w1 ∧ Frm P M v w v' w1) (lb := #[.pointer (some ⟨P, 0, none⟩), .pointer (some ⟨B, 0, none⟩), .pointer (some ⟨M, 0, none⟩)]) ((dec1_in hF hC (by omega) hk (by omega) hn (x 0)).mono ?_)).mono ?_
    · rintro e w' ⟨v', rfl, h1, h2⟩
      exact ⟨_, _, rfl, rfl, rfl, v', h1, h2⟩
    · rintro e w' ⟨y, ok, w1, ⟨rfl, rfl, v', h1, h2⟩, rfl, rfl⟩
      have h3 := h1.below hF (hba w1 (x 0))
      have h4 := h2.trans (Frm.of_below (hba w1 (x 0)))
      refine ⟨hC.bel hF h4, h3.mc, .slice (some ⟨w1.heap.size, 0, none⟩) 1 1, ?_, fun r hr => ?_⟩
      · unfold rdp
        rw [if_pos (decide_eq_true hn)]
        by_cases h0 : x 0 = -1
        · rw [if_pos h0, h0]; rfl
        · rw [if_neg h0, bne_iff_ne.2 h0]; rfl
      · have hr : (if decide ((q : Int) ∈ zl k p) = true then (if x 0 = -1 then none else some (x, x)) else (if x 0 = 1 then none else some (fun _ => 0, fun _ => 0))) = some r := hr
        rw [if_pos (decide_eq_true hn)] at hr
        by_cases h0 : x 0 = -1
        · rw [if_pos h0] at hr; cases hr
        · rw [if_neg h0] at hr
          cases hr
          refine ⟨v', w1.heap.size, ownI_lit w1 [x 0] (by simp), h2.size, fun i e => (h1.own.lt i e).2, ?_, h4⟩
          show Cls T P B M k bo bc p (q + 1) v' (L ++ ([] ++ (if decide ((q : Int) ∈ zl k p) = true then [x 0] else []))) _
          rw [if_pos (decide_eq_true hn)]
          exact h3
  · refine (read1_any enters_dec1 (c := c) hc (G := fun y ok w1 => y = 0 ∧ ok = (x 0 != 1) ∧ Cls T P B M k bo bc p (q + 1) v L w1 ∧ Frm P M v w v w1) (lb := #[.pointer (some ⟨P, 0, none⟩), .pointer (some ⟨B, 0, none⟩), .pointer (some ⟨M, 0, none⟩)]) ((dec1_out hF hC (by omega) hk hn (x 0)).mono ?_)).mono ?_
    · rintro e w' ⟨rfl, h1, h2⟩
      exact ⟨_, _, rfl, rfl, rfl, h1, h2⟩
    · rintro e w' ⟨y, ok, w1, ⟨rfl, rfl, h1, h2⟩, rfl, rfl⟩
      have h3 := h1.below hF (hba w1 0)
      have h4 := h2.trans (Frm.of_below (hba w1 0))
      refine ⟨hC.bel hF h4, h3.mc, .slice (some ⟨w1.heap.size, 0, none⟩) 1 1, ?_, fun r hr => ?_⟩
      · unfold rdp
        rw [if_neg (by rw [decide_eq_false hn]; intro e; cases e)]
        by_cases h0 : x 0 = 1
        · rw [if_pos h0, h0]; rfl
        · rw [if_neg h0, bne_iff_ne.2 h0]; rfl
      · have hr : (if decide ((q : Int) ∈ zl k p) = true then (if x 0 = -1 then none else some (x, x)) else (if x 0 = 1 then none else some (fun _ => 0, fun _ => 0))) = some r := hr
        rw [if_neg (by rw [decide_eq_false hn]; intro e; cases e)] at hr
        by_cases h0 : x 0 = 1
        · rw [if_pos h0] at hr; cases hr
        · rw [if_neg h0] at hr
          cases hr
          refine ⟨v, w1.heap.size, ownI_lit w1 [0] (by decide), h2.size, fun i e => (h1.own.lt i e).2, ?_, h4⟩
          show Cls T P B M k bo bc p (q + 1) v (L ++ ([] ++ (if decide ((q : Int) ∈ zl k p) = true then [0] else []))) _
          rw [if_neg (by rw [decide_eq_false hn]; intro e; cases e), List.append_nil, List.append_nil]
          exact h3
end Go.Proofs.Ytbfkacnpbelmlaa
