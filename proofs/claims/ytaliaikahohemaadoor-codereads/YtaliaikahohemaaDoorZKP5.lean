/- Texts of ours, one behind the other: KP5 KP6. -/
import Derived.Test.YtaliaikahohemaaDoorZKP3
import Derived.Test.YtaliaikahohemaaDoorZS59
import Derived.Test.YtaliaikahohemaaDoorZS4
import Derived.Test.YtaliaikahohemaaDoorZI12
import Derived.Test.YtaliaikahohemaaDoorZX12
/- The lines of a text, on both sides (the reference's Lines). -/
namespace Go.Proofs.YtaliaikahohemaaDoor
open Go.RowKit

/-- A text without the newline at its end. -/
def trm (s : ByteArray) : ByteArray := ⟨(Go.Lib.trimSuffix s.data.toList [10]).toArray⟩
/-- How many lines a text has; each of them. -/
def lcN (s : ByteArray) : Nat := if s.size = 0 then 0 else pcN 10 (trm s)
def lcS (s : ByteArray) (k : Nat) : ByteArray := pcS 10 (trm s) k
theorem trm_le (s : ByteArray) : (trm s).size ≤ s.size := by
  unfold trm
  show (Go.Lib.trimSuffix s.data.toList [10]).toArray.size ≤ _
  rw [List.size_toArray]
  unfold Go.Lib.trimSuffix
  split
  · rw [List.length_take, siz_len]; omega
  · rw [siz_len]; exact Nat.le_refl _
theorem lcN_le (s : ByteArray) : lcN s ≤ s.size + 1 := by
  unfold lcN
  split
  · omega
  · have := pcN_le 10 (trm s)
    have := trm_le s
    omega
theorem lcS_le (s : ByteArray) (k : Nat) : (lcS s k).size ≤ s.size := Nat.le_trans (pcS_le 10 (trm s) k) (trm_le s)
theorem pcS_last {c : UInt8} {s : ByteArray} {L : List (List UInt8)} {p : List UInt8} (h : spl c s.data.toList = L ++ [p]) : pcN c s = L.length + 1 ∧ (pcS c s (pcN c s - 1)) = ⟨p.toArray⟩ ∧ ∀ k, k < L.length → pcS c s k = ⟨(L.getD k []).toArray⟩ := by
  have h1 : pcN c s = L.length + 1 := by unfold pcN; rw [h]; simp
  refine ⟨h1, ?_, fun k hk => ?_⟩
  · rw [h1]
    unfold pcS
    rw [h]
    simp [List.getD_eq_getElem?_getD]
  · unfold pcS
    rw [h, List.getD_eq_getElem?_getD, List.getElem?_append_left hk, List.getD_eq_getElem?_getD]
theorem lines_last (s : ByteArray) : ((pcS 10 s (pcN 10 s - 1)).size = 0 → lcN s = pcN 10 s - 1 ∧ ∀ k, k < lcN s → lcS s k = pcS 10 s k) ∧ ((pcS 10 s (pcN 10 s - 1)).size ≠ 0 → lcN s = pcN 10 s ∧ ∀ k, k < lcN s → lcS s k = pcS 10 s k) := by
  by_cases hs : s.size = 0
  · have hl : s.data.toList = [] := List.length_eq_zero_iff.1 ((siz_len s).trans hs)
    have h0 : lcN s = 0 := if_pos hs
    have h := pcS_last (c := 10) (s := s) (L := []) (p := []) (by rw [hl]; rfl)
    refine ⟨fun _ => ⟨by rw [h0, h.1]; rfl, fun k hk => by omega⟩, fun hc => absurd (by rw [h.2.1]; rfl) hc⟩
  · have hl : s.data.toList ≠ [] := fun e => hs (by rw [← siz_len, e]; rfl)
    have h0 : lcN s = pcN 10 (trm s) := if_neg hs
    rcases lines_eq hl with ⟨t, e1, e2, e3⟩ | ⟨e1, L, p, e2, hp⟩
    · have ht : (trm s).data.toList = t := by unfold trm; rw [e2]
      have h := pcS_last (c := 10) (s := s) e3
      have hN : pcN 10 (trm s) = (spl 10 t).length := by unfold pcN; rw [ht]
      refine ⟨fun _ => ⟨by rw [h0, h.1, hN]; rfl, fun k hk => ?_⟩, fun hc => absurd (by rw [h.2.1]; rfl) hc⟩
      rw [h0, hN] at hk
      rw [h.2.2 k hk]
      unfold lcS pcS
      rw [ht]
    · have ht : trm s = s := by unfold trm; rw [e1]
      have h := pcS_last (c := 10) (s := s) e2
      refine ⟨fun hc => ?_, fun _ => ⟨by rw [h0, ht], fun k _ => by unfold lcS; rw [ht]⟩⟩
      rw [h.2.1] at hc
      have hc : p.toArray.size = 0 := hc
      rw [List.size_toArray] at hc
      exact absurd (List.length_eq_zero_iff.1 hc) hp
theorem cut_at {c : UInt8} {s : ByteArray} {w : World} {n ci : Nat} {S : Nat → ByteArray} (hs : s.size ≤ 5000) (hn : n = pcN c s) (hS : S = pcS c s) (hc : c.toNat = ci) :
    Calls Tryd.prog 12 #[.string s, .int .u8 (ci : Nat)] w fun e w' => (∃ g cap, e = .returned (.slice (some ⟨g, 0, none⟩) n cap) ∧ n ≤ cap ∧ w.heap.size ≤ g ∧ SR g n S w') ∧ Below w.heap.size w w' := by
  rw [hn, hS, ← hc]; exact cut_any c s w hs

set_option maxHeartbeats 4000000 in
set_option maxRecDepth 100000 in
theorem rlines_any (s : ByteArray) (w : World) (hs : s.size ≤ 5000) :
    Calls Tryd.prog 11 #[.string s] w fun e w' => (∃ g cap, e = .returned (.slice (some ⟨g, 0, none⟩) (lcN s) cap) ∧ lcN s ≤ cap ∧ w.heap.size ≤ g ∧ g < w'.heap.size ∧ SR g (lcN s) (lcS s) w') ∧ Below w.heap.size w w' := by
  obtain ⟨n, hn⟩ : ∃ n, n + 1 = pcN 10 s := ⟨pcN 10 s - 1, by have := pcN_pos 10 s; omega⟩
  obtain ⟨S, hS⟩ : ∃ S, S = pcS 10 s := ⟨_, rfl⟩
  have HS : Hid (n + 1 = pcN 10 s ∧ S = pcS 10 s) := ⟨hn, hS⟩
  have hn1 : n ≤ 5000 := by have := pcN_le 10 s; omega
  clear hn hS
  go_enter Tryd.func11, Tryd.ntmps11
  have hll : Hid _ := lines_last s
  by_cases hx : (S n).size = 0
  · have hem : (S n).toList.isEmpty = true := is_empty hx
    obtain ⟨x, hxx⟩ : ∃ x, x = S n := ⟨_, rfl⟩
    rw [← hxx] at hem hx
    have HX : Hid (x = S n ∧ x.size = 0) := ⟨hxx, hx⟩
    clear hxx hx
    go_wp2_with (go_at_call 12; refine (cut_at hs HS.out.1 HS.out.2 rfl).mono ?_; rintro e w1 ⟨⟨g, cap, rfl, hcap, hg, hsr⟩, hb1⟩; have hcell := hsr n (by omega); rw [← HX.out.1] at hcell)
    have h := hll.out.1 (by rw [← HS.out.1, ← HS.out.2]; show (S (n + 1 - 1)).size = 0; rw [Nat.add_sub_cancel, ← HX.out.1]; exact HX.out.2)
    have hlc : lcN s = n := by rw [h.1, ← HS.out.1]; rfl
    go_ret
    refine ⟨⟨g, cap, by rw [hlc]; rfl, by omega, hg, hsr.lt (by omega), ?_⟩, hb1⟩
    intro k hk
    rw [h.2 k hk, ← HS.out.2]
    exact hsr k (by omega)
  · have hem : (S n).toList.isEmpty = false := not_empty hx
    obtain ⟨x, hxx⟩ : ∃ x, x = S n := ⟨_, rfl⟩
    rw [← hxx] at hem hx
    have HX : Hid (x = S n ∧ x.size ≠ 0) := ⟨hxx, hx⟩
    clear hxx hx
    go_wp2_with (go_at_call 12; refine (cut_at hs HS.out.1 HS.out.2 rfl).mono ?_; rintro e w1 ⟨⟨g, cap, rfl, hcap, hg, hsr⟩, hb1⟩; have hcell := hsr n (by omega); rw [← HX.out.1] at hcell)
    have h := hll.out.2 (by rw [← HS.out.1, ← HS.out.2]; show (S (n + 1 - 1)).size ≠ 0; rw [Nat.add_sub_cancel, ← HX.out.1]; exact HX.out.2)
    have hlc : lcN s = n + 1 := by rw [h.1, ← HS.out.1]
    go_ret
    refine ⟨⟨g, cap, by rw [hlc]; rfl, by omega, hg, hsr.lt (by omega), ?_⟩, hb1⟩
    intro k hk
    rw [h.2 k hk, ← HS.out.2]
    exact hsr k (by omega)
end Go.Proofs.YtaliaikahohemaaDoor

/- A code's text: what reading it comes to; the program's Parse. -/
namespace Go.Proofs.YtaliaikahohemaaDoor
open Go.RowKit Go.Sort

theorem readLine_ok {s : ByteArray} {m : Int} {w : World} {n : Nat} (hs : s.size ≤ 5000) (hm : w.cell? ⟨mxl, 0, none⟩ = some (.int .i64 m)) (hn : n = pcN 32 s) (h : lne s = 0) :
    Calls Tryd.prog 9 #[.string s] w fun e w' => (∃ g cap, e = .returned (.tuple #[.slice (some ⟨g, 0, none⟩) n cap, .int .i64 0]) ∧ OwnI w.heap.size (.slice (some ⟨g, 0, none⟩) n cap) (zl n (lnz s)) w' ∧ ∀ j, j < n → w'.cell? ⟨g, j, none⟩ = some (.int .i64 (lnz s j))) ∧ Below w.heap.size w w' := by
  refine (readLine_any s m w hs hm).mono ?_
  rintro e w' ⟨⟨h1, _⟩ | ⟨_, v, rfl, ho⟩, hb⟩
  · exact absurd h h1
  · rw [← hn] at ho
    have hne : zl n (lnz s) ≠ [] := by
      intro e
      have h2 := pcN_pos 32 s
      have h3 := zl_len n (lnz s)
      rw [e] at h3
      have h3 : 0 = n := h3
      omega
    obtain ⟨g, cap, hv, _, _, hc, _⟩ := ho.at hne
    rw [zl_len] at hv hc
    subst hv
    exact ⟨⟨g, cap, rfl, ho, fun j hj => by rw [hc j hj, zl_getD n _ j hj]⟩, hb⟩
theorem readLine_no {s : ByteArray} {m : Int} {w : World} {x : Int} (hs : s.size ≤ 5000) (hm : w.cell? ⟨mxl, 0, none⟩ = some (.int .i64 m)) (hx : lne s = x) (h : x ≠ 0) :
    Calls Tryd.prog 9 #[.string s] w fun e w' => e = .returned (.tuple #[.slice none 0 0, .int .i64 x]) ∧ Below w.heap.size w w' := by
  refine (readLine_any s m w hs hm).mono ?_
  rintro e w' ⟨⟨_, h1⟩ | ⟨h1, _⟩, hb⟩
  · rw [hx] at h1; exact ⟨h1, hb⟩
  · exact absurd (hx.symm.trans h1) h
/-- A line's fault; the text's. -/
def pqe (s : ByteArray) (k : Nat) : Int := if lne (lcS s k) ≠ 0 then lne (lcS s k) else if k = 0 ∧ pcN 32 (lcS s 0) ≠ 2 then 6 else 0
def txe (s : ByteArray) : Int := if 4000 < s.size then 4 else if s.size = 0 then 12 else fer (pqe s) (lcN s)
def tN (s : ByteArray) (i : Nat) : Nat := pcN 32 (lcS s (i + 1))
def tZ (s : ByteArray) (i j : Nat) : Int := lnz (lcS s (i + 1)) j
/-- t lists of the call's own, each of so many numbers. -/
structure RdS (base t : Nat) (v : Value) (vs : Nat → Value) (N : Nat → Nat) (Z : Nat → Nat → Int) (w : World) : Prop where
  own : OwnV base v (vl t vs) w
  row : ∀ j, j < t → OwnI base (vs j) (zl (N j) (Z j)) w
theorem RdS.nil (base : Nat) (vs : Nat → Value) (N : Nat → Nat) (Z : Nat → Nat → Int) (w : World) : RdS base 0 (.slice none 0 0) vs N Z w := ⟨OwnV.nil _ _, fun j hj => absurd hj (by omega)⟩
theorem RdS.below {base t : Nat} {v : Value} {vs : Nat → Value} {N : Nat → Nat} {Z : Nat → Nat → Int} {w w' : World} (h : RdS base t v vs N Z w) (hb : Below w.heap.size w w') : RdS base t v vs N Z w' :=
  ⟨h.own.below hb (Nat.le_refl _), fun j hj => (h.row j hj).below hb (fun k hk => ((h.row j hj).lt k hk).2)⟩
theorem RdS.set {base t b o : Nat} {v u : Value} {vs : Nat → Value} {N : Nat → Nat} {Z : Nat → Nat → Int} {w : World} (h : RdS base t v vs N Z w) (hb : b < base) : RdS base t v vs N Z (w.setCell ⟨b, o, none⟩ u) :=
  ⟨h.own.same (fun g hg => Below.heap_setCell _ _ _ _ (by show g ≠ b; have := h.own.open_ge g hg; omega)), fun j hj => (h.row j hj).same (fun g hg => Below.heap_setCell _ _ _ _ (by show g ≠ b; have := ((h.row j hj).lt g hg).1; omega))⟩
theorem RdS.push {base t : Nat} {v v' u : Value} {vs : Nat → Value} {N : Nat → Nat} {Z : Nat → Nat → Int} {w w' : World} (h : RdS base t v vs N Z w) (hu : OwnI base u (zl (N t) (Z t)) w) (ho : OwnV base v' (vl t vs ++ [u]) w') (hg : w.grownBy w' v.ownBlock) :
    RdS base (t + 1) v' (fun j => if j = t then u else vs j) N Z w' := by
  refine ⟨?_, fun j hj => ?_⟩
  · have e : vl (t + 1) (fun j => if j = t then u else vs j) = vl t vs ++ [u] := by
      unfold vl
      rw [List.range_succ, List.map_append]
      congr 1
      · exact List.map_congr_left (fun j hj => by rw [if_neg (by have := List.mem_range.1 hj; omega)])
      · simp
    rw [e]; exact ho
  · by_cases e : j = t
    · simp only [if_pos e]; rw [e]; exact hu.kept hg (hu.apart h.own)
    · simp only [if_neg e]; exact (h.row j (by omega)).kept hg ((h.row j (by omega)).apart h.own)
theorem RdS.matZ {base t : Nat} {v : Value} {vs : Nat → Value} {N : Nat → Nat} {Z : Nat → Nat → Int} {w : World} (h : RdS base t v vs N Z w) (hc : ∀ j, N j ≤ 1000000) : ∃ mo mc, v = .slice mo t mc ∧ MatZ mo t (fun j => slA (vs j)) N (fun j => slC (vs j)) Z w := by
  obtain ⟨mo, mc, hv, _, _, _, hcell⟩ := h.own.open
  rw [vl_len] at hv
  have key : ∀ j, j < t → ∃ so sc, vs j = .slice so (N j) sc ∧ ArgL so (N j) sc (Z j) w := fun j hj => (h.row j hj).argL
  refine ⟨mo, mc, hv, ⟨fun j hj => ?_, fun j hj => ?_, fun j hj => ?_, fun j hj => ?_, fun j hj => ?_, fun j _ => hc j⟩⟩
  · obtain ⟨g, e, hc, _⟩ := hcell j (vs j) (vl_get t vs j hj)
    obtain ⟨so, sc, e2, _⟩ := key j hj
    refine ⟨g, 0, e, ?_⟩
    rw [Nat.zero_add, hc, e2]; rfl
  · obtain ⟨so, sc, e2, ha⟩ := key j hj
    simp only [e2, slA]; exact ha.sl
  · obtain ⟨so, sc, e2, ha⟩ := key j hj
    simp only [e2, slC]; exact ha.le
  · obtain ⟨so, sc, e2, ha⟩ := key j hj
    simp only [e2, slC]; exact ha.cap
  · obtain ⟨so, sc, e2, ha⟩ := key j hj
    simp only [e2, slA, slC]; exact ha.nil
theorem RB.under {b B : Nat} {w w' : World} (h : RB b w) (hb : Below B w w') (hB : b < B) : RB b w' := by
  obtain ⟨v0, h0⟩ := h.c0
  obtain ⟨v1, h1⟩ := h.c1
  obtain ⟨v2, h2⟩ := h.c2
  have hh := hb.block b hB
  have e : ∀ o, w'.cell? ⟨b, o, none⟩ = w.cell? ⟨b, o, none⟩ := fun o => by simp [World.cell?, hh]
  have f : ∀ o, w'.frozen? ⟨b, o, none⟩ = w.frozen? ⟨b, o, none⟩ := fun o => by simp [World.frozen?, hh]
  exact ⟨⟨v0, (e 0).trans h0⟩, ⟨v1, (e 1).trans h1⟩, ⟨v2, (e 2).trans h2⟩, (f 0).trans h.f0, (f 1).trans h.f1, (f 2).trans h.f2⟩
/-- While a text is read: where its lines lie (g), the code so far (b), the answer's place (a). -/
structure PaS (a b g B m t : Nat) (S : Nat → ByteArray) (q n : Int) (v : Value) (vs : Nat → Value) (N : Nat → Nat) (Z : Nat → Nat → Int) (w : World) : Prop where
  ra : RB a w
  ta : RBt a w
  rb : RB b w
  cb : CB b q n v w
  rd : RdS B t v vs N Z w
  sr : SR g m S w
theorem PaS.below {a b g B m t : Nat} {S : Nat → ByteArray} {q n : Int} {v : Value} {vs : Nat → Value} {N : Nat → Nat} {Z : Nat → Nat → Int} {w w' : World} (h : PaS a b g B m t S q n v vs N Z w) (hb : Below w.heap.size w w') (hg : g < w.heap.size) : PaS a b g B m t S q n v vs N Z w' :=
  ⟨h.ra.keep hb, h.ta.keep hb, h.rb.keep hb, h.cb.keep hb, h.rd.below hb, h.sr.kept hb hg⟩
theorem RB.put2 {a b : Nat} {w : World} (h : RB a w) (o : Nat) (u : Value) : RB a (w.setCell ⟨b, o, none⟩ u) := by
  have key : ∀ p : Addr, (∃ v, w.cell? p = some v) → ∃ v, (w.setCell ⟨b, o, none⟩ u).cell? p = some v := by
    intro p ⟨v, hv⟩
    by_cases e : p = ⟨b, o, none⟩
    · subst e; exact ⟨u, World.cell?_setCell_same _ _ _ hv⟩
    · exact ⟨v, by rw [World.cell?_setCell_other _ _ _ _ (fun h => e h.symm)]; exact hv⟩
  exact ⟨key _ h.c0, key _ h.c1, key _ h.c2, by rw [World.frozen?_setCell]; exact h.f0, by rw [World.frozen?_setCell]; exact h.f1, by rw [World.frozen?_setCell]; exact h.f2⟩
theorem RBt.put {a b : Nat} {w : World} (h : RBt a w) (hab : a ≠ b) (o : Nat) (u : Value) : RBt a (w.setCell ⟨b, o, none⟩ u) := by
  obtain ⟨cs, h⟩ := h
  exact ⟨cs, by rw [Below.heap_setCell _ _ _ _ hab]; exact h⟩
theorem RBt.under {a B : Nat} {w w' : World} (h : RBt a w) (hb : Below B w w') (hB : a < B) : RBt a w' := by
  obtain ⟨cs, h⟩ := h
  exact ⟨cs, by rw [hb.block a hB]; exact h⟩
theorem PaS.more {a b g B m t : Nat} {S : Nat → ByteArray} {q n : Int} {u v v' : Value} {vs : Nat → Value} {N : Nat → Nat} {Z : Nat → Nat → Int} {w w' : World} (h : PaS a b g B m t S q n v vs N Z w) (hu : OwnI B u (zl (N t) (Z t)) w) (ho : OwnV B v' (vl t vs ++ [u]) w') (hg : w.grownBy w' v.ownBlock) (hbl : Below B w w') (haB : a < B) (hbB : b < B) (hgB : g < B) (hbg : g ≠ b) (hab : a ≠ b) :
    PaS a b g B m (t + 1) S q n v' (fun j => if j = t then u else vs j) N Z (w'.setCell ⟨b, 2, none⟩ v') := by
  have hcb := h.cb.below hbl (by omega)
  refine ⟨(h.ra.under hbl (by omega)).put2 _ _, (h.ta.under hbl haB).put hab _ _, (h.rb.under hbl (by omega)).put2 _ _, ⟨?_, ?_, ?_⟩, (h.rd.push hu ho hg).set (by omega), fun k hk => ?_⟩
  · rw [World.cell?_setCell_other _ _ _ _ (by intro e; cases e)]; exact hcb.c0
  · rw [World.cell?_setCell_other _ _ _ _ (by intro e; cases e)]; exact hcb.c1
  · exact World.cell?_setCell_same _ _ _ hcb.c2
  · rw [World.cell?_setCell_other _ _ _ _ (by intro e; cases e; omega)]
    exact (h.sr.kept hbl (by omega)) k hk
theorem PaS.head {a b g B m t : Nat} {S : Nat → ByteArray} {q n : Int} {v : Value} {vs : Nat → Value} {N : Nat → Nat} {Z : Nat → Nat → Int} {w : World} (h : PaS a b g B m t S q n v vs N Z w) (x y : Int) (hbB : b < B) (hbg : g ≠ b) (hab : a ≠ b) :
    PaS a b g B m t S x y v vs N Z ((w.setCell ⟨b, 0, none⟩ (.int .i64 x)).setCell ⟨b, 1, none⟩ (.int .i64 y)) := by
  refine ⟨(h.ra.put2 _ _).put2 _ _, (h.ta.put hab _ _).put hab _ _, (h.rb.put2 _ _).put2 _ _, ⟨?_, ?_, ?_⟩, (h.rd.set (by omega)).set (by omega), fun k hk => ?_⟩
  · rw [World.cell?_setCell_other _ _ _ _ (by intro e; cases e)]
    exact World.cell?_setCell_same _ _ _ h.cb.c0
  · exact World.cell?_setCell_same _ _ _ (by rw [World.cell?_setCell_other _ _ _ _ (by intro e; cases e)]; exact h.cb.c1)
  · rw [World.cell?_setCell_other _ _ _ _ (by intro e; cases e), World.cell?_setCell_other _ _ _ _ (by intro e; cases e)]; exact h.cb.c2
  · rw [World.cell?_setCell_other _ _ _ _ (by intro e; cases e; omega), World.cell?_setCell_other _ _ _ _ (by intro e; cases e; omega)]
    exact h.sr k hk
theorem pqe_line {s : ByteArray} {k : Nat} {x : Int} (hx : lne (lcS s k) = x) (h : x ≠ 0) : pqe s k = x := by
  unfold pqe
  rw [hx, if_pos h]
theorem pqe_more {s : ByteArray} {k : Nat} (hx : lne (lcS s k) = 0) (hk : 0 < k) : pqe s k = 0 := by
  unfold pqe
  rw [hx, if_neg (fun h => h rfl), if_neg (by omega)]
theorem pqe_six {s : ByteArray} (hx : lne (lcS s 0) = 0) (h : pcN 32 (lcS s 0) ≠ 2) : pqe s 0 = 6 := by
  unfold pqe
  rw [hx, if_neg (fun h => h rfl), if_pos ⟨rfl, h⟩]
theorem pqe_two {s : ByteArray} (hx : lne (lcS s 0) = 0) (h : pcN 32 (lcS s 0) = 2) : pqe s 0 = 0 := by
  unfold pqe
  rw [hx, if_neg (fun h => h rfl), if_neg (by omega)]
/-- The code's first numbers after t lines. -/
def hdq (s : ByteArray) (t : Nat) : Int := if t = 0 then 0 else lnz (lcS s 0) 0
def hdn (s : ByteArray) (t : Nat) : Int := if t = 0 then 0 else lnz (lcS s 0) 1
/-- What Parse tells: G tells where the code's rows lie. -/
def PaP (s : ByteArray) (ea q n : Int) (G : Nat → Value → World → Prop) (w : World) (e : Ending) (w' : World) : Prop :=
  (txe s ≠ 0 ∧ e = .returned (.tuple #[.agg #[.int .i64 0, .int .i64 0, .slice none 0 0], .int .i64 (txe s)])) ∨
  (txe s = 0 ∧ ∃ ro k rc, e = .returned (.tuple #[.agg #[.int .i64 q, .int .i64 n, .slice ro k rc], .int .i64 ea]) ∧ G w.heap.size (.slice ro k rc) w')
end Go.Proofs.YtaliaikahohemaaDoor
