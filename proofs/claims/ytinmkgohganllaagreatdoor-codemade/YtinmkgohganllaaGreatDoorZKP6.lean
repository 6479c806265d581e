/- Texts of ours, one behind the other: KP6 KP7 S61 KP11. -/
import Derived.Test.YtinmkgohganllaaGreatDoorZS59
import Derived.Test.YtinmkgohganllaaGreatDoorZL11
import Derived.Test.YtinmkgohganllaaGreatDoorZI12
import Derived.Test.YtinmkgohganllaaGreatDoorZX11
import Derived.Laws.BytesString
import Derived.WalkLawsBesides
namespace Go.Proofs.YtinmkgohganllaaGreatDoor
open Go.RowKit Go.Sort
theorem readLine_ok {s : ByteArray} {m : Int} {w : World} {n : Nat} (hs : s.size ≤ 5000) (hm : w.cell? ⟨mxl,0,none⟩ = some (.int .i64 m)) (hn : n = pcN 32 s) (h : lne s = 0) :
   Calls Tryz.prog 79 #[.string s] w fun e w' => (∃ g cap,e = .returned (.tuple #[.slice (some ⟨g,0,none⟩) n cap, .int .i64 0]) ∧ OwnI w.heap.size (.slice (some ⟨g,0,none⟩) n cap) (zl n (lnz s)) w' ∧ ∀ j,j < n → w'.cell? ⟨g,j,none⟩ = some (.int .i64 (lnz s j))) ∧ Below w.heap.size w w' := by
 refine (readLine_any s m w hs hm).mono ?_
 rintro e w' ⟨⟨h1,_⟩ | ⟨_,v,rfl,ho⟩,hb⟩
 · exact absurd h h1
 · rw [← hn] at ho
   have hne : zl n (lnz s) ≠ [] := by
     intro e
     have h2 := pcN_pos 32 s
     have h3 := zl_len n (lnz s)
     rw [e] at h3
     have h3 : 0 = n := h3
     omega
   obtain ⟨g,cap,hv,_,_,hc,_⟩ := ho.at hne
   rw [zl_len] at hv hc
   subst hv
   exact ⟨⟨g,cap,rfl,ho,fun j hj => by rw [hc j hj,zl_getD n _ j hj]⟩,hb⟩
theorem readLine_no {s : ByteArray} {m : Int} {w : World} {x : Int} (hs : s.size ≤ 5000) (hm : w.cell? ⟨mxl,0,none⟩ = some (.int .i64 m)) (hx : lne s = x) (h : x ≠ 0) :
   Calls Tryz.prog 79 #[.string s] w fun e w' => e = .returned (.tuple #[.slice none 0 0, .int .i64 x]) ∧ Below w.heap.size w w' := by
 refine (readLine_any s m w hs hm).mono ?_
 rintro e w' ⟨⟨_,h1⟩ | ⟨h1,_⟩,hb⟩
 · rw [hx] at h1; exact ⟨h1,hb⟩
 · exact absurd (hx.symm.trans h1) h
def pqe (s : ByteArray) (k : Nat) : Int := if lne (lcS s k) ≠ 0 then lne (lcS s k) else if k = 0 ∧ pcN 32 (lcS s 0) ≠ 2 then 6 else 0
def txe (s : ByteArray) : Int := if 4000 < s.size then 4 else if s.size = 0 then 12 else fer (pqe s) (lcN s)
def tN (s : ByteArray) (i : Nat) : Nat := pcN 32 (lcS s (i + 1))
def tZ (s : ByteArray) (i j : Nat) : Int := lnz (lcS s (i + 1)) j
structure RdS (base t : Nat) (v : Value) (vs : Nat → Value) (N : Nat → Nat) (Z : Nat → Nat → Int) (w : World) : Prop where
 own : OwnV base v (vl t vs) w
 row : ∀ j,j < t → OwnI base (vs j) (zl (N j) (Z j)) w
theorem RdS.nil (base : Nat) (vs : Nat → Value) (N : Nat → Nat) (Z : Nat → Nat → Int) (w : World) : RdS base 0 (.slice none 0 0) vs N Z w := ⟨OwnV.nil _ _,fun j hj => absurd hj (by omega)⟩
theorem RdS.below {base t : Nat} {v : Value} {vs : Nat → Value} {N : Nat → Nat} {Z : Nat → Nat → Int} {w w' : World} (h : RdS base t v vs N Z w) (hb : Below w.heap.size w w') : RdS base t v vs N Z w' :=
 ⟨h.own.below hb (Nat.le_refl _),fun j hj => (h.row j hj).below hb (fun k hk => ((h.row j hj).lt k hk).2)⟩
theorem RdS.set {base t b o : Nat} {v u : Value} {vs : Nat → Value} {N : Nat → Nat} {Z : Nat → Nat → Int} {w : World} (h : RdS base t v vs N Z w) (hb : b < base) : RdS base t v vs N Z (w.setCell ⟨b,o,none⟩ u) :=
 ⟨h.own.same (fun g hg => Below.heap_setCell _ _ _ _ (by show g ≠ b; have := h.own.open_ge g hg; omega)),fun j hj => (h.row j hj).same (fun g hg => Below.heap_setCell _ _ _ _ (by show g ≠ b; have := ((h.row j hj).lt g hg).1; omega))⟩
theorem RdS.push {base t : Nat} {v v' u : Value} {vs : Nat → Value} {N : Nat → Nat} {Z : Nat → Nat → Int} {w w' : World} (h : RdS base t v vs N Z w) (hu : OwnI base u (zl (N t) (Z t)) w) (ho : OwnV base v' (vl t vs ++ [u]) w') (hg : w.grownBy w' v.ownBlock) :
   RdS base (t + 1) v' (fun j => if j = t then u else vs j) N Z w' := by
 refine ⟨?_,fun j hj => ?_⟩
 · have e : vl (t + 1) (fun j => if j = t then u else vs j) = vl t vs ++ [u] := by
     unfold vl
     rw [List.range_succ,List.map_append]
     congr 1
     · exact List.map_congr_left (fun j hj => by rw [if_neg (by have := List.mem_range.1 hj; omega)])
     · simp
   rw [e]; exact ho
 · by_cases e : j = t
   · simp only [if_pos e]; rw [e]; exact hu.kept hg (hu.apart h.own)
   · simp only [if_neg e]; exact (h.row j (by omega)).kept hg ((h.row j (by omega)).apart h.own)
theorem RdS.matZ {base t : Nat} {v : Value} {vs : Nat → Value} {N : Nat → Nat} {Z : Nat → Nat → Int} {w : World} (h : RdS base t v vs N Z w) (hc : ∀ j,N j ≤ 1000000) : ∃ mo mc,v = .slice mo t mc ∧ MatZ mo t (fun j => slA (vs j)) N (fun j => slC (vs j)) Z w := by
 obtain ⟨mo,mc,hv,_,_,_,hcell⟩ := h.own.open
 rw [vl_len] at hv
 have key : ∀ j,j < t → ∃ so sc,vs j = .slice so (N j) sc ∧ ArgL so (N j) sc (Z j) w := fun j hj => (h.row j hj).argL
 refine ⟨mo,mc,hv,⟨fun j hj => ?_,fun j hj => ?_,fun j hj => ?_,fun j hj => ?_,fun j hj => ?_,fun j _ => hc j⟩⟩
 · obtain ⟨g,e,hc,_⟩ := hcell j (vs j) (vl_get t vs j hj)
   obtain ⟨so,sc,e2,_⟩ := key j hj
   refine ⟨g,0,e, ?_⟩
   rw [Nat.zero_add,hc,e2]; rfl
 · obtain ⟨so,sc,e2,ha⟩ := key j hj
   simp only [e2,slA]; exact ha.sl
 · obtain ⟨so,sc,e2,ha⟩ := key j hj
   simp only [e2,slC]; exact ha.le
 · obtain ⟨so,sc,e2,ha⟩ := key j hj
   simp only [e2,slC]; exact ha.cap
 · obtain ⟨so,sc,e2,ha⟩ := key j hj
   simp only [e2,slA,slC]; exact ha.nil
theorem RB.under {b B : Nat} {w w' : World} (h : RB b w) (hb : Below B w w') (hB : b < B) : RB b w' := by
 obtain ⟨v0,h0⟩ := h.c0
 obtain ⟨v1,h1⟩ := h.c1
 obtain ⟨v2,h2⟩ := h.c2
 have hh := hb.block b hB
 have e : ∀ o,w'.cell? ⟨b,o,none⟩ = w.cell? ⟨b,o,none⟩ := fun o => by simp [World.cell?,hh]
 have f : ∀ o,w'.frozen? ⟨b,o,none⟩ = w.frozen? ⟨b,o,none⟩ := fun o => by simp [World.frozen?,hh]
 exact ⟨⟨v0,(e 0).trans h0⟩,⟨v1,(e 1).trans h1⟩,⟨v2,(e 2).trans h2⟩,(f 0).trans h.f0,(f 1).trans h.f1,(f 2).trans h.f2⟩
structure PaS (a b g B m t : Nat) (S : Nat → ByteArray) (q n : Int) (v : Value) (vs : Nat → Value) (N : Nat → Nat) (Z : Nat → Nat → Int) (w : World) : Prop where
 ra : RB a w
 ta : RBt a w
 rb : RB b w
 cb : CB b q n v w
 rd : RdS B t v vs N Z w
 sr : SR g m S w
theorem PaS.below {a b g B m t : Nat} {S : Nat → ByteArray} {q n : Int} {v : Value} {vs : Nat → Value} {N : Nat → Nat} {Z : Nat → Nat → Int} {w w' : World} (h : PaS a b g B m t S q n v vs N Z w) (hb : Below w.heap.size w w') (hg : g < w.heap.size) : PaS a b g B m t S q n v vs N Z w' :=
 ⟨h.ra.keep hb,h.ta.keep hb,h.rb.keep hb,h.cb.keep hb,h.rd.below hb,h.sr.kept hb hg⟩
theorem RB.put2 {a b : Nat} {w : World} (h : RB a w) (o : Nat) (u : Value) : RB a (w.setCell ⟨b,o,none⟩ u) := by
 have key : ∀ p : Addr,(∃ v,w.cell? p = some v) → ∃ v,(w.setCell ⟨b,o,none⟩ u).cell? p = some v := by
   intro p ⟨v,hv⟩
   by_cases e : p = ⟨b,o,none⟩
   · subst e; exact ⟨u,World.cell?_setCell_same _ _ _ hv⟩
   · exact ⟨v,by rw [World.cell?_setCell_other _ _ _ _ (fun h => e h.symm)]; exact hv⟩
 exact ⟨key _ h.c0,key _ h.c1,key _ h.c2,by rw [World.frozen?_setCell]; exact h.f0,by rw [World.frozen?_setCell]; exact h.f1,by rw [World.frozen?_setCell]; exact h.f2⟩
theorem RBt.put {a b : Nat} {w : World} (h : RBt a w) (hab : a ≠ b) (o : Nat) (u : Value) : RBt a (w.setCell ⟨b,o,none⟩ u) := by
 obtain ⟨cs,h⟩ := h
 exact ⟨cs,by rw [Below.heap_setCell _ _ _ _ hab]; exact h⟩
theorem RBt.under {a B : Nat} {w w' : World} (h : RBt a w) (hb : Below B w w') (hB : a < B) : RBt a w' := by
 obtain ⟨cs,h⟩ := h
 exact ⟨cs,by rw [hb.block a hB]; exact h⟩
theorem PaS.more {a b g B m t : Nat} {S : Nat → ByteArray} {q n : Int} {u v v' : Value} {vs : Nat → Value} {N : Nat → Nat} {Z : Nat → Nat → Int} {w w' : World} (h : PaS a b g B m t S q n v vs N Z w) (hu : OwnI B u (zl (N t) (Z t)) w) (ho : OwnV B v' (vl t vs ++ [u]) w') (hg : w.grownBy w' v.ownBlock) (hbl : Below B w w') (haB : a < B) (hbB : b < B) (hgB : g < B) (hbg : g ≠ b) (hab : a ≠ b) :
   PaS a b g B m (t + 1) S q n v' (fun j => if j = t then u else vs j) N Z (w'.setCell ⟨b,2,none⟩ v') := by
 have hcb := h.cb.below hbl (by omega)
 refine ⟨(h.ra.under hbl (by omega)).put2 _ _,(h.ta.under hbl haB).put hab _ _,(h.rb.under hbl (by omega)).put2 _ _,⟨?_, ?_, ?_⟩,(h.rd.push hu ho hg).set (by omega),fun k hk => ?_⟩
 · rw [World.cell?_setCell_other _ _ _ _ (by intro e; cases e)]; exact hcb.c0
 · rw [World.cell?_setCell_other _ _ _ _ (by intro e; cases e)]; exact hcb.c1
 · exact World.cell?_setCell_same _ _ _ hcb.c2
 · rw [World.cell?_setCell_other _ _ _ _ (by intro e; cases e; omega)]
   exact (h.sr.kept hbl (by omega)) k hk
theorem PaS.head {a b g B m t : Nat} {S : Nat → ByteArray} {q n : Int} {v : Value} {vs : Nat → Value} {N : Nat → Nat} {Z : Nat → Nat → Int} {w : World} (h : PaS a b g B m t S q n v vs N Z w) (x y : Int) (hbB : b < B) (hbg : g ≠ b) (hab : a ≠ b) :
   PaS a b g B m t S x y v vs N Z ((w.setCell ⟨b,0,none⟩ (.int .i64 x)).setCell ⟨b,1,none⟩ (.int .i64 y)) := by
 refine ⟨(h.ra.put2 _ _).put2 _ _,(h.ta.put hab _ _).put hab _ _,(h.rb.put2 _ _).put2 _ _,⟨?_, ?_, ?_⟩,(h.rd.set (by omega)).set (by omega),fun k hk => ?_⟩
 · rw [World.cell?_setCell_other _ _ _ _ (by intro e; cases e)]
   exact World.cell?_setCell_same _ _ _ h.cb.c0
 · exact World.cell?_setCell_same _ _ _ (by rw [World.cell?_setCell_other _ _ _ _ (by intro e; cases e)]; exact h.cb.c1)
 · rw [World.cell?_setCell_other _ _ _ _ (by intro e; cases e),World.cell?_setCell_other _ _ _ _ (by intro e; cases e)]; exact h.cb.c2
 · rw [World.cell?_setCell_other _ _ _ _ (by intro e; cases e; omega),World.cell?_setCell_other _ _ _ _ (by intro e; cases e; omega)]
   exact h.sr k hk
theorem pqe_line {s : ByteArray} {k : Nat} {x : Int} (hx : lne (lcS s k) = x) (h : x ≠ 0) : pqe s k = x := by
 unfold pqe
 rw [hx,if_pos h]
theorem pqe_more {s : ByteArray} {k : Nat} (hx : lne (lcS s k) = 0) (hk : 0 < k) : pqe s k = 0 := by
 unfold pqe
 rw [hx,if_neg (fun h => h rfl),if_neg (by omega)]
theorem pqe_six {s : ByteArray} (hx : lne (lcS s 0) = 0) (h : pcN 32 (lcS s 0) ≠ 2) : pqe s 0 = 6 := by
 unfold pqe
 rw [hx,if_neg (fun h => h rfl),if_pos ⟨rfl,h⟩]
theorem pqe_two {s : ByteArray} (hx : lne (lcS s 0) = 0) (h : pcN 32 (lcS s 0) = 2) : pqe s 0 = 0 := by
 unfold pqe
 rw [hx,if_neg (fun h => h rfl),if_neg (by omega)]
def hdq (s : ByteArray) (t : Nat) : Int := if t = 0 then 0 else lnz (lcS s 0) 0
def hdn (s : ByteArray) (t : Nat) : Int := if t = 0 then 0 else lnz (lcS s 0) 1
def PaP (s : ByteArray) (ea q n : Int) (G : Nat → Value → World → Prop) (w : World) (e : Ending) (w' : World) : Prop :=
 (txe s ≠ 0 ∧ e = .returned (.tuple #[.agg #[.int .i64 0, .int .i64 0, .slice none 0 0], .int .i64 (txe s)])) ∨
 (txe s = 0 ∧ ∃ ro k rc,e = .returned (.tuple #[.agg #[.int .i64 q, .int .i64 n, .slice ro k rc], .int .i64 ea]) ∧ G w.heap.size (.slice ro k rc) w')
theorem trim_at {s x : ByteArray} {w : World} (hs : s.size ≤ 5000) (hx : x = trm s) :
   Calls Tryz.prog 78 #[.string s, .string ⟨#[10]⟩] w fun e w' => e = .returned (.string x) ∧ w' = w := by
 rw [hx]
 exact trimS s ⟨#[10]⟩ w (by omega)
theorem zero_laid (w : World) : Below w.heap.size w (laid (w.alloc (.cells #[.int .i64 0, .int .i64 0, .slice none 0 0] 25)) w.heap.size 0 0 (.slice none 0 0)) := laid_below ((Below.refl _ _).alloc (Nat.le_refl _) _) (Nat.le_refl _) _ _ _
set_option maxHeartbeats 8000000 in
set_option maxRecDepth 100000 in
theorem parse_any (s : ByteArray) (mx : Int) {w : World} (hs : s.size ≤ 5000) (hm : w.cell? ⟨mxl,0,none⟩ = some (.int .i64 mx)) (ea q n : Int) (G : Nat → Value → World → Prop)
   (hG1 : ∀ B b v wx x y u,G B v wx → b < B → RBt b wx → G B v (laid wx b x y u)) (hG2 : ∀ B B' v wx,G B v wx → B' ≤ B → G B' v wx)
   (hMk : ∀ ao A C ca wx,MatZ ao (lcN s - 1) A (tN s) C (tZ s) wx → Calls Tryz.prog 17 #[.agg #[.int .i64 (lnz (lcS s 0) 0), .int .i64 (lnz (lcS s 0) 1), .slice ao (lcN s - 1) ca]] wx fun e w' => (∃ ro k rc,e = .returned (.tuple #[.agg #[.int .i64 q, .int .i64 n, .slice ro k rc], .int .i64 ea]) ∧ G wx.heap.size (.slice ro k rc) w') ∧ Below wx.heap.size wx w') :
   Calls Tryz.prog 41 #[.string s] w fun e w' => PaP s ea q n G w e w' ∧ Below w.heap.size w w' := by
 by_cases h1 : 4000 < s.size
 · have i1 : (4000 : Int) < (s.size : Int) := by omega
   have HT : Hid (txe s = 4) := if_pos h1
   clear hMk hm hG1 hG2 h1
   go_enter Tryz.func41,Tryz.ntmps41
   go_wp2
   refine bodyPost_ret (v := .tuple #[.agg #[.int .i64 0, .int .i64 0, .slice none 0 0], .int .i64 4]) (by simp [results,Tryz.results41,go_sem]) rfl ?_
   exact ⟨Or.inl ⟨by rw [HT.out]; decide,by rw [HT.out]⟩,by first | exact zero_laid w | exact (Below.refl _ _).alloc (Nat.le_refl _) _⟩
 have i1 : ¬ (4000 : Int) < (s.size : Int) := by omega
 by_cases h2 : s.size = 0
 · have i2 := is_empty h2
   have HT : Hid (txe s = 12) := by
     show txe s = 12
     unfold txe; rw [if_neg h1,if_pos h2]
   clear hMk hm hG1 hG2 h1 h2
   go_enter Tryz.func41,Tryz.ntmps41
   go_wp2
   refine bodyPost_ret (v := .tuple #[.agg #[.int .i64 0, .int .i64 0, .slice none 0 0], .int .i64 12]) (by simp [results,Tryz.results41,go_sem]) rfl ?_
   exact ⟨Or.inl ⟨by rw [HT.out]; decide,by rw [HT.out]⟩,by first | exact zero_laid w | exact (Below.refl _ _).alloc (Nat.le_refl _) _⟩
 have i2 := not_empty h2
 have HG : Hid ((∀ B b v wx x y u,G B v wx → b < B → RBt b wx → G B v (laid wx b x y u)) ∧ ∀ B B' v wx,G B v wx → B' ≤ B → G B' v wx) := ⟨hG1,hG2⟩
 obtain ⟨x,hx⟩ : ∃ x,x = trm s := ⟨_,rfl⟩
 obtain ⟨m,hmm⟩ : ∃ m,m = lcN s := ⟨_,rfl⟩
 obtain ⟨S,hS⟩ : ∃ S,S = lcS s := ⟨_,rfl⟩
 have hlc : lcN s = pcN 10 (trm s) := if_neg h2
 have HX : Hid (x = trm s ∧ m = lcN s ∧ S = lcS s ∧ m = pcN 10 x ∧ S = pcS 10 x) := ⟨hx,hmm,hS,by rw [hmm,hlc,hx],by rw [hS,hx]; rfl⟩
 have hm0 : 0 < m := by rw [hmm,hlc]; exact pcN_pos _ _
 have hm1 : m ≤ 5001 := by have := lcN_le s; omega
 have HSl : Hid (∀ k,(S k).size ≤ 5000) := fun k => by rw [hS]; have := lcS_le s k; omega
 have hxs : x.size ≤ 5000 := by rw [hx]; have := trm_le s; omega
 have HT : Hid (txe s = fer (pqe s) m) := by
   show txe s = _
   unfold txe; rw [if_neg h1,if_neg h2,hmm]
 have HMk : Hid (∀ ao A C ca wx,MatZ ao (m - 1) A (tN s) C (tZ s) wx → Calls Tryz.prog 17 #[.agg #[.int .i64 (lnz (lcS s 0) 0), .int .i64 (lnz (lcS s 0) 1), .slice ao (m - 1) ca]] wx fun e w' => (∃ ro k rc,e = .returned (.tuple #[.agg #[.int .i64 q, .int .i64 n, .slice ro k rc], .int .i64 ea]) ∧ G wx.heap.size (.slice ro k rc) w') ∧ Below wx.heap.size wx w') := by rw [hmm]; exact hMk
 have HMx : Hid (∀ wx,Below w.heap.size w wx → wx.cell? ⟨mxl,0,none⟩ = some (.int .i64 mx)) := fun wx hb => (hb.cell (p := ⟨mxl,0,none⟩) (cell_lt hm)).trans hm
 clear hMk hm hG1 hG2 h1 h2 hlc hx hmm hS
 obtain ⟨w0,hw0⟩ : ∃ w0,w0 = (w.alloc (.cells #[.int .i64 0, .int .i64 0, .slice none 0 0] 25)).alloc (.cells #[.int .i64 0, .int .i64 0, .slice none 0 0] 25) := ⟨_,rfl⟩
 have HW : Hid (Below w.heap.size w w0 ∧ RB w.heap.size w0 ∧ RB (w.heap.size + 1) w0 ∧ CB (w.heap.size + 1) 0 0 (.slice none 0 0) w0 ∧ w0.heap.size = w.heap.size + 2 ∧ RBt w.heap.size w0) := by
   obtain ⟨h1,h2,h3,h4⟩ := two_boxes 0 0 0 0 (.slice none 0 0) (.slice none 0 0) w
   have h5 := RB.new (.int .i64 0) (.int .i64 0) (.slice none 0 0) (w.alloc (.cells #[.int .i64 0, .int .i64 0, .slice none 0 0] 25))
   have h6 := (RB.new (.int .i64 0) (.int .i64 0) (.slice none 0 0) w).keep (w' := (w.alloc (.cells #[.int .i64 0, .int .i64 0, .slice none 0 0] 25)).alloc (.cells #[.int .i64 0, .int .i64 0, .slice none 0 0] 25)) ((Below.refl _ _).alloc (Nat.le_refl _) _)
   have hs1 : (w.alloc (.cells #[.int .i64 0, .int .i64 0, .slice none 0 0] 25)).heap.size = w.heap.size + 1 := by simp
   rw [hs1] at h5
   rw [hw0]; exact ⟨h1,h6,h5,h3,by simp,(RBt.new _ w).keep ((Below.refl _ _).alloc (Nat.le_refl _) _)⟩
 go_enter Tryz.func41,Tryz.ntmps41
 go_wp2_with first
   | (go_at_call 78; refine (trim_at hs HX.out.1).mono ?_; rintro e w' ⟨rfl,rfl⟩; rw [← hw0]; clear hw0)
   | (go_at_call 77; refine (split_at hxs (HMx.out _ HW.out.1) HX.out.2.2.2.1 HX.out.2.2.2.2).mono ?_; rintro e w1 ⟨rfl,hsr,hb1,hsz⟩)
 obtain ⟨a,ha⟩ : ∃ a,a = w.heap.size := ⟨_,rfl⟩
 obtain ⟨g,hg⟩ : ∃ g,g = w0.heap.size := ⟨_,rfl⟩
 rw [← hg] at hsr
 have H1 : Hid (PaS a (a + 1) g (g + 1) m 0 S 0 0 (.slice none 0 0) (fun _ => undef) (tN s) (tZ s) w1 ∧ Below w.heap.size w w1 ∧ g = a + 2 ∧ a = w.heap.size ∧ w1.heap.size = g + 1) := by
   have h5 := HW.out.2.2.2.2.1
   rw [ha]
   exact ⟨⟨HW.out.2.1.keep hb1,HW.out.2.2.2.2.2.keep hb1,HW.out.2.2.1.keep hb1,HW.out.2.2.2.1.keep hb1,RdS.nil _ _ _ _ _,hsr⟩,bel_up' HW.out.1 hb1,by omega,rfl,by omega⟩
 try rw [← hg]
 try rw [← ha]
 clear hsr hb1 hsz hg ha
 go_loopw [20] (fun vi wr => ∃ (t : Nat) (v : Value) (vs : Nat → Value),t ≤ m ∧ vi = .int .i64 (t : Nat) ∧ Hid (PaS a (a + 1) g (g + 1) m (t - 1) S (hdq s t) (hdn s t) v vs (tN s) (tZ s) wr ∧ Below w.heap.size w wr ∧ g < wr.heap.size ∧ fer (pqe s) t = 0)) (fun vi _ => m - (intOf vi).toNat)
 case atStart => exact ⟨0,_,_,by omega,rfl,H1.out.1,H1.out.2.1,by have := H1.out.2.2.2.2; omega,rfl⟩
 case round =>
   obtain ⟨t,v,vs,ht,rfl,HI⟩ := hrel
   rename World => wr
   by_cases hlt : t < m
   · have hib : (t : Int) < (m : Int) := by omega
     have hib0 : (0 : Int) ≤ (t : Int) := by omega
     have hcell := HI.out.1.sr t hlt
     obtain ⟨l,hl⟩ : ∃ l,l = S t := ⟨_,rfl⟩
     rw [← hl] at hcell
     have HL : Hid (l = lcS s t ∧ l.size ≤ 5000) := ⟨by rw [hl,HX.out.2.2.1],by rw [hl]; exact HSl.out t⟩
     clear hl
     obtain ⟨x0,HE⟩ : ∃ x0,Hid (lne l = x0) := ⟨_,rfl⟩
     by_cases h0 : x0 = 0
     · subst h0
       obtain ⟨k,HK⟩ : ∃ k,Hid (k = pcN 32 l) := ⟨_,rfl⟩
       have hk1 : k ≤ 5001 := by rw [HK.out]; have := pcN_le 32 l; have := HL.out.2; omega
       by_cases ht0 : t = 0
       · subst ht0
         by_cases hk2 : k = 2
         · have i4 : ((k : Int) != 2) = false := by rw [hk2]; rfl
           have HF : Hid (fer (pqe s) 1 = 0) := by
             show fer (pqe s) 1 = 0
             rw [fer_next rfl]; exact pqe_two (by rw [← HL.out.1]; exact HE.out) (by rw [← HL.out.1, ← HK.out]; exact hk2)
           subst hk2
           go_wp2_with (go_at_call 79; refine (readLine_ok HL.out.2 (HMx.out _ HI.out.2.1) HK.out HE.out).mono ?_; rintro e w2 ⟨⟨gl,cl,rfl,hol,hcl⟩,hb2⟩; have hq0 := hcl 0 (by omega); have hq1 := hcl 1 (by omega); obtain ⟨⟨y0,c0⟩,⟨y1,c1⟩,⟨y2,c2⟩,f0,f1,f2⟩ := HI.out.1.rb.keep hb2)
           obtain ⟨qv,HQ0⟩ : ∃ qv,Hid (qv = lnz l 0) := ⟨_,rfl⟩
           obtain ⟨nv,HN0⟩ : ∃ nv,Hid (nv = lnz l 1) := ⟨_,rfl⟩
           rw [← HQ0.out] at hq0
           rw [← HN0.out] at hq1
           have HB2 : Hid (PaS a (a + 1) g (g + 1) m 0 S 0 0 v vs (tN s) (tZ s) w2 ∧ Below w.heap.size w w2 ∧ g < w2.heap.size) := ⟨HI.out.1.below hb2 HI.out.2.2.1,bel_up' HI.out.2.1 hb2,Nat.lt_of_lt_of_le HI.out.2.2.1 hb2.size⟩
           have hgl : gl ≠ a + 1 := by
             have h1 := (hol.lt gl rfl).1
             have h2 := HI.out.2.2.1
             have h3 := H1.out.2.2.1
             omega
           have hgl2 : a + 1 ≠ gl := fun e => hgl e.symm
           clear hol hcl hb2
           go_region
           go_wp2
           go_roundw
           case rel =>
             refine ⟨1,v,vs,by omega,by go_num, ?_⟩
             have h3 := H1.out.2.2.1
             have h4 := H1.out.2.2.2.1
             have hP := HB2.out.1.head qv nv (by omega) (by omega) (by omega)
             have hq1 : hdq s 1 = qv := by rw [HQ0.out,HL.out.1]; rfl
             have hn1 : hdn s 1 = nv := by rw [HN0.out,HL.out.1]; rfl
             rw [hq1,hn1]
             have hbd : ∀ u : World,Below u.heap.size u u.drew := fun u => (Below.refl _ _).drew
             refine ⟨hP.below (hbd _) ?_,((HB2.out.2.1.setCell (by show w.heap.size ≤ a + 1; omega) _).setCell (by show w.heap.size ≤ a + 1; omega) _).drew, ?_,HF.out⟩
             · simp; exact HB2.out.2.2
             · simp; exact HB2.out.2.2
           case measure => simp [intOf]; omega
         · have i4 : ((k : Int) != 2) = true := by rw [bne_iff_ne]; omega
           have HF : Hid (txe s = 6) := by
             have hp : pqe s 0 = 6 := pqe_six (by rw [← HL.out.1]; exact HE.out) (by rw [← HL.out.1, ← HK.out]; exact hk2)
             have h1 : fer (pqe s) (0 + 1) = 6 := by rw [fer_next rfl,hp]
             show txe s = 6
             rw [HT.out,fer_stay (i := 0 + 1) (by rw [h1]; decide) m (by omega),h1]
           clear hk2
           go_wp2_with (go_at_call 79; refine (readLine_ok HL.out.2 (HMx.out _ HI.out.2.1) HK.out HE.out).mono ?_; rintro e w2 ⟨⟨gl,cl,rfl,hol,hcl⟩,hb2⟩; clear hol hcl; obtain ⟨⟨y0,c0⟩,⟨y1,c1⟩,⟨y2,c2⟩,f0,f1,f2⟩ := HI.out.1.ra.keep hb2)
           obtain ⟨w3,hw3⟩ : ∃ w3,w3 = laid w2 a 0 0 (.slice none 0 0) := ⟨_,rfl⟩
           have H3 : Hid (CB a 0 0 (.slice none 0 0) w3 ∧ Below w.heap.size w w3) := by
             rw [hw3]; exact ⟨laid_cb (HI.out.1.ra.keep hb2) _ _ _,laid_below (bel_up' HI.out.2.1 hb2) (by rw [H1.out.2.2.2.1]; exact Nat.le_refl _) _ _ _⟩
           unfold laid at hw3
           rw [← hw3]
           clear hw3 c0 c1 c2 f0 f1 f2
           obtain ⟨c0,c1,c2⟩ := H3.out.1
           refine bodyPost_ret (v := .tuple #[.agg #[.int .i64 0, .int .i64 0, .slice none 0 0], .int .i64 6]) (by simp [results,Tryz.results41,go_sem,c0,c1,c2]) rfl ?_
           exact ⟨Or.inl ⟨by rw [HF.out]; decide,by rw [HF.out]⟩,H3.out.2⟩
       · have i3 : (0 : Int) < (t : Int) := by omega
         obtain ⟨t',HTT⟩ : ∃ t',Hid (t = t' + 1) := ⟨t - 1,by show t = t - 1 + 1; omega⟩
         have HF : Hid (fer (pqe s) (t + 1) = 0) := by
           show fer (pqe s) (t + 1) = 0
           rw [fer_next HI.out.2.2.2]; exact pqe_more (by rw [← HL.out.1]; exact HE.out) (by omega)
         have HO : Hid (k = tN s t' ∧ lnz l = tZ s t' ∧ hdq s (t + 1) = hdq s t ∧ hdn s (t + 1) = hdn s t) := by
           refine ⟨by rw [HK.out,HL.out.1,HTT.out]; rfl,by rw [HL.out.1,HTT.out]; rfl, ?_, ?_⟩
           · unfold hdq; rw [if_neg (by omega),if_neg (by omega)]
           · unfold hdn; rw [if_neg (by omega),if_neg (by omega)]
         go_wp2_with first
           | (go_at_call 79; refine (readLine_ok HL.out.2 (HMx.out _ HI.out.2.1) HK.out HE.out).mono ?_; rintro e w2 ⟨⟨gl,cl,rfl,hol,hcl⟩,hb2⟩; have hs2 := hb2.size; have hP2 := HI.out.1.below hb2 HI.out.2.2.1; have hc2 := hP2.cb.c2)
           | (at_builtin; refine append_sl rfl _ _ rfl (g + 1) _ (vl (t - 1) vs) rfl ?_ ⟨_,0,none⟩ 1 (.slice (some ⟨gl,0,none⟩) k cl) rfl rfl ?_ ?_ ?_ ?_)
         · exact (hP2.rd.below ((Below.refl _ _).alloc (Nat.le_refl _) _)).own
         · simp
         · rw [vl_len]; omega
         · have := HI.out.2.2.1; simp; omega
         · intro v3 w3 hown3 hgrow3
           obtain ⟨o3,n3,c3,hv3⟩ : ∃ o3 n3 c3,v3 = .slice o3 n3 c3 := by
             obtain ⟨mo,mc,hv,_⟩ := hown3.open
             exact ⟨_,_,_,hv⟩
           subst hv3
           have hb3 : Below (g + 1) (w2.alloc (.cells #[.slice (some ⟨gl,0,none⟩) k cl] 22)) w3 := below_grown hgrow3 (by have := HI.out.2.2.1; simp; omega) (fun k hk => hP2.rd.own.open_ge k hk)
           obtain ⟨⟨y0,c0⟩,⟨y1,c1⟩,⟨y2,c2⟩,f0,f1,f2⟩ := (hP2.rb.keep ((Below.refl _ _).alloc (Nat.le_refl _) _)).under hb3 (by have := H1.out.2.2.1; omega)
           have HY : Hid (PaS a (a + 1) g (g + 1) m t S (hdq s (t + 1)) (hdn s (t + 1)) (.slice o3 n3 c3) (fun j => if j = t - 1 then .slice (some ⟨gl,0,none⟩) k cl else vs j) (tN s) (tZ s) (w3.setCell ⟨a + 1,2,none⟩ (.slice o3 n3 c3)) ∧ Below w.heap.size w (w3.setCell ⟨a + 1,2,none⟩ (.slice o3 n3 c3)) ∧ g < (w3.setCell ⟨a + 1,2,none⟩ (.slice o3 n3 c3)).heap.size ∧ fer (pqe s) (t + 1) = 0) := by
             have h3 := H1.out.2.2.1
             have h4 := H1.out.2.2.2.1
             have h5 := HI.out.2.2.1
             have hal : Below w2.heap.size w2 (w2.alloc (.cells #[.slice (some ⟨gl,0,none⟩) k cl] 22)) := (Below.refl _ _).alloc (Nat.le_refl _) _
             have hu : OwnI (g + 1) (.slice (some ⟨gl,0,none⟩) k cl) (zl (tN s (t - 1)) (tZ s (t - 1))) (w2.alloc (.cells #[.slice (some ⟨gl,0,none⟩) k cl] 22)) := by
               have ht' : t - 1 = t' := by have := HTT.out; omega
               rw [ht', ← HO.out.1, ← HO.out.2.1]
               exact (hol.alloc _).mono (by omega)
             have hM := (hP2.below hal (by omega)).more hu hown3 hgrow3 hb3 (by omega) (by omega) (by omega) (by omega) (by omega)
             rw [show t - 1 + 1 = t by omega] at hM
             rw [HO.out.2.2.1,HO.out.2.2.2]
             have hb4 : Below w.heap.size w w3 := (bel_up' (bel_up' HI.out.2.1 hb2) hal).trans (hb3.mono (by omega))
             refine ⟨hM,hb4.setCell (by show w.heap.size ≤ a + 1; omega) _, ?_,HF.out⟩
             have h6 := hb3.size
             simp at h6 ⊢
             omega
           clear hown3 hgrow3 hb3 hb2 hP2 hol hcl hc2 hs2
           go_wp2
           clear c0 c1 c2 f0 f1 f2
           go_roundw
           case rel => exact ⟨t + 1,(.slice o3 n3 c3),_,by omega,by go_num,HY.out⟩
           case measure => simp [intOf]; omega
     · have i0 : (x0 != 0) = true := by rw [bne_iff_ne]; exact h0
       have HF : Hid (txe s = x0 ∧ x0 ≠ 0) := by
         have hp : pqe s t = x0 := pqe_line (by rw [← HL.out.1]; exact HE.out) h0
         have h1 : fer (pqe s) (t + 1) = x0 := by rw [fer_next HI.out.2.2.2,hp]
         refine ⟨?_,h0⟩
         rw [HT.out,fer_stay (i := t + 1) (by rw [h1]; exact h0) m (by omega),h1]
       clear h0
       go_wp2_with (go_at_call 79; refine (readLine_no HL.out.2 (HMx.out _ HI.out.2.1) HE.out HF.out.2).mono ?_; rintro e w2 ⟨rfl,hb2⟩; obtain ⟨⟨y0,c0⟩,⟨y1,c1⟩,⟨y2,c2⟩,f0,f1,f2⟩ := HI.out.1.ra.keep hb2)
       obtain ⟨w3,hw3⟩ : ∃ w3,w3 = laid w2 a 0 0 (.slice none 0 0) := ⟨_,rfl⟩
       have H3 : Hid (CB a 0 0 (.slice none 0 0) w3 ∧ Below w.heap.size w w3) := by
         rw [hw3]; exact ⟨laid_cb (HI.out.1.ra.keep hb2) _ _ _,laid_below (bel_up' HI.out.2.1 hb2) (by rw [H1.out.2.2.2.1]; exact Nat.le_refl _) _ _ _⟩
       unfold laid at hw3
       rw [← hw3]
       clear hw3 c0 c1 c2 f0 f1 f2
       obtain ⟨c0,c1,c2⟩ := H3.out.1
       refine bodyPost_ret (v := .tuple #[.agg #[.int .i64 0, .int .i64 0, .slice none 0 0], .int .i64 x0]) (by simp [results,Tryz.results41,go_sem,c0,c1,c2]) rfl ?_
       exact ⟨Or.inl ⟨by rw [HF.out.1]; exact HF.out.2,by rw [HF.out.1]⟩,H3.out.2⟩
   · have hib : ¬ (t : Int) < (m : Int) := by omega
     have hte : t = m := by omega
     obtain ⟨mo,mc,hv,hmat⟩ := HI.out.1.rd.matZ (fun j => by show pcN 32 (lcS s (j + 1)) ≤ 1000000; have := pcN_le 32 (lcS s (j + 1)); have := lcS_le s (j + 1); omega)
     subst hv
     have HQ : Hid (hdq s t = lnz (lcS s 0) 0 ∧ hdn s t = lnz (lcS s 0) 1) := by
       rw [hte]
       exact ⟨if_neg (by omega),if_neg (by omega)⟩
     have HM2 : Hid (MatZ mo (m - 1) (fun j => slA (vs j)) (tN s) (fun j => slC (vs j)) (tZ s) wr) := by rw [← hte]; exact hmat
     have hcb := HI.out.1.cb
     rw [HQ.out.1,HQ.out.2,hte] at hcb
     obtain ⟨a0,a1,a2⟩ := hcb
     obtain ⟨qq,hqq⟩ : ∃ qq,qq = lnz (lcS s 0) 0 := ⟨_,rfl⟩
     obtain ⟨nn,hnn⟩ : ∃ nn,nn = lnz (lcS s 0) 1 := ⟨_,rfl⟩
     rw [← hqq] at a0
     rw [← hnn] at a1
     have HMk2 : Hid (∀ wx,wx = wr → Calls Tryz.prog 17 #[.agg #[.int .i64 qq, .int .i64 nn, .slice mo (m - 1) mc]] wx fun e w' => (∃ ro k rc,e = .returned (.tuple #[.agg #[.int .i64 q, .int .i64 n, .slice ro k rc], .int .i64 ea]) ∧ G wx.heap.size (.slice ro k rc) w') ∧ Below wx.heap.size wx w') := fun wx hx => by
       subst hx
       rw [hqq,hnn]; exact HMk.out _ _ _ _ _ HM2.out
     have HT0 : Hid (txe s = 0) := by
       show txe s = 0
       rw [HT.out, ← hte]; exact HI.out.2.2.2
     clear hte hmat hqq hnn
     go_wp2_with (go_at_call 17; refine (HMk2.out _ rfl).mono ?_; rintro e w2 ⟨⟨ro,rk,rc,rfl,hgv⟩,hb2⟩; obtain ⟨⟨y0,c0⟩,⟨y1,c1⟩,⟨y2,c2⟩,f0,f1,f2⟩ := HI.out.1.ra.keep hb2)
     obtain ⟨w3,hw3⟩ : ∃ w3,w3 = laid w2 a q n (.slice ro rk rc) := ⟨_,rfl⟩
     have H3 : Hid (CB a q n (.slice ro rk rc) w3 ∧ Below w.heap.size w w3 ∧ G w.heap.size (.slice ro rk rc) w3) := by
       have h5 := H1.out.2.2.2.1
       have h6 := HI.out.2.2.1
       have h7 := H1.out.2.2.1
       rw [hw3]; exact ⟨laid_cb (HI.out.1.ra.keep hb2) _ _ _,laid_below (bel_up' HI.out.2.1 hb2) (by rw [h5]; exact Nat.le_refl _) _ _ _,HG.out.2 _ _ _ _ (HG.out.1 _ _ _ _ _ _ _ hgv (by omega) (HI.out.1.ta.keep hb2)) (by omega)⟩
     unfold laid at hw3
     rw [← hw3]
     clear hw3 c0 c1 c2 f0 f1 f2
     obtain ⟨c0,c1,c2⟩ := H3.out.1
     refine bodyPost_ret (v := .tuple #[.agg #[.int .i64 q, .int .i64 n, .slice ro rk rc], .int .i64 ea]) (by simp [results,Tryz.results41,go_sem,c0,c1,c2]) rfl ?_
     exact ⟨Or.inr ⟨HT0.out,ro,rk,rc,rfl,H3.out.2.2⟩,H3.out.2.1⟩
end Go.Proofs.YtinmkgohganllaaGreatDoor
namespace Go.Proofs.YtinmkgohganllaaGreatDoor
def dgd (v : Nat) : List UInt8 := if v < 10 then [(48 + v).toUInt8] else [(48 + v / 10).toUInt8,(48 + v % 10).toUInt8]
def tlL : List Nat → List UInt8
 | [] => []
 | [v] => dgd v
 | v :: u :: l => dgd v ++ 32 :: tlL (u :: l)
def txL : List (List Nat) → List UInt8
 | [] => []
 | l :: L => tlL l ++ 10 :: txL L
theorem dgd_rnm : ∀ v,v < 100 → rnm (dgd v) = (0,v) := by decide +kernel
theorem dgd_no : ∀ v,v < 100 → (32 : UInt8) ∉ dgd v ∧ (10 : UInt8) ∉ dgd v := by decide +kernel
theorem tlL_spl : ∀ l : List Nat,l ≠ [] → (∀ v ∈ l,v < 100) → spl 32 (tlL l) = l.map dgd
 | [],h,_ => absurd rfl h
 | [v],_,hv => spl_not (dgd_no v (hv v (by simp))).1
 | v :: u :: l,_,hv => by
   show spl 32 (dgd v ++ 32 :: tlL (u :: l)) = _
   rw [spl_hit (dgd_no v (hv v (by simp))).1,tlL_spl (u :: l) (by simp) (fun x hx => hv x (List.mem_cons_of_mem _ hx))]
   rfl
theorem tlL_no : ∀ l : List Nat,(∀ v ∈ l,v < 100) → (10 : UInt8) ∉ tlL l
 | [],_ => by simp [tlL]
 | [v],hv => (dgd_no v (hv v (by simp))).2
 | v :: u :: l,hv => by
   show (10 : UInt8) ∉ dgd v ++ 32 :: tlL (u :: l)
   rw [List.mem_append,List.mem_cons,not_or,not_or]
   exact ⟨(dgd_no v (hv v (by simp))).2,by decide,tlL_no (u :: l) (fun x hx => hv x (List.mem_cons_of_mem _ hx))⟩
theorem txL_spl : ∀ L : List (List Nat),(∀ l ∈ L, ∀ v ∈ l,v < 100) → spl 10 (txL L) = L.map tlL ++ [[]]
 | [],_ => rfl
 | l :: L,h => by
   show spl 10 (tlL l ++ 10 :: txL L) = _
   rw [spl_hit (tlL_no l (h l (by simp))),txL_spl L (fun x hx => h x (List.mem_cons_of_mem _ hx))]
   rfl
theorem txL_lines {s : ByteArray} {L : List (List Nat)} (hs : s.data.toList = txL L) (h : ∀ l ∈ L, ∀ v ∈ l,v < 100) : lcN s = L.length ∧ ∀ i,i < L.length → lcS s i = tob (tlL (L.getD i [])) := by
 have e : spl 10 s.data.toList = L.map tlL ++ [[]] := by rw [hs]; exact txL_spl L h
 obtain ⟨h1,h2,h3⟩ := pcS_last e
 rw [List.length_map] at h1 h3
 obtain ⟨h4,h5⟩ := (lines_last s).1 (by rw [h2]; rfl)
 have h6 : lcN s = L.length := by omega
 refine ⟨h6,fun i hi => ?_⟩
 rw [h5 i (by omega),h3 i hi]
 unfold tob
 rw [List.getD_eq_getElem?_getD,List.getElem?_map,List.getElem?_eq_getElem hi,List.getD_eq_getElem?_getD,List.getElem?_eq_getElem hi]
 rfl
theorem tlL_line {l : List Nat} (h0 : l ≠ []) (h : ∀ v ∈ l,v < 100) : pcN 32 (tob (tlL l)) = l.length ∧ lne (tob (tlL l)) = 0 ∧ ∀ j,j < l.length → lnz (tob (tlL l)) j = ((l.getD j 0 : Nat) : Int) := by
 have e : spl 32 (tob (tlL l)).data.toList = l.map dgd := by
   show spl 32 (tlL l).toArray.toList = _
   rw [List.toList_toArray]; exact tlL_spl l h0 h
 have hN : pcN 32 (tob (tlL l)) = l.length := by unfold pcN; rw [e,List.length_map]
 have hW : ∀ j,j < l.length → rnb (pcS 32 (tob (tlL l)) j) = (0,l.getD j 0) := fun j hj => by
   unfold rnb pcS
   rw [e]
   show rnm (((l.map dgd).getD j []).toArray.toList) = _
   rw [List.toList_toArray,List.getD_eq_getElem?_getD,List.getElem?_map,List.getElem?_eq_getElem hj,List.getD_eq_getElem?_getD,List.getElem?_eq_getElem hj]
   exact dgd_rnm _ (h _ (List.getElem_mem hj))
 refine ⟨hN, ?_,fun j hj => ?_⟩
 · unfold lne
   exact fer_all _ (fun j hj => by rw [hN] at hj; show (rnb (pcS 32 (tob (tlL l)) j)).1 = 0; rw [hW j hj])
 · unfold lnz
   rw [hW j hj]
end Go.Proofs.YtinmkgohganllaaGreatDoor
namespace Go.Proofs.YtinmkgohganllaaGreatDoor
open Go.RowKit Go.Sort
theorem conv_byte (w : World) (n : Int) : (convert 98 9 (.slice (some ⟨w.heap.size,0,none⟩) 1 1)).run Tryz.prog (w.alloc (.cells #[.int .u8 n] 5)) = .ok (.string (ByteArray.empty.push (UInt8.ofNat n.toNat))) (w.alloc (.cells #[.int .u8 n] 5)) := by
 rw [run_convert_bytes_string _ _ _ 5 _ _ _ (by kernel_rfl) (by kernel_rfl) (by kernel_rfl)]
 refine run_bytesToString _ _ _ _ [n] ?_
 refine run_loadCells_list _ _ [.int .u8 n] fun j v hv => ?_
 have hj : j = 0 := by
   cases j with
   | zero => rfl
   | succ j => simp at hv
 subst hj
 simp at hv
 subst hv
 show (w.alloc _).cell? ⟨w.heap.size,0,none⟩ = _
 simp
theorem tob_app (a b : List UInt8) : tob a ++ tob b = tob (a ++ b) := by
 unfold tob
 apply ByteArray.ext
 simp [ByteArray.data_append]
theorem tob_size (a : List UInt8) : (tob a).size = a.length := by
 show a.toArray.size = _
 simp
theorem dgd_push : ∀ x,x < 10 → ByteArray.empty.push (UInt8.ofNat ((48 + x : Nat) : Int).toNat) = tob (dgd x) := by
 intro x hx
 rw [Int.toNat_natCast]
 unfold dgd
 rw [if_pos hx]
 rfl
theorem dgd_len : ∀ v,v < 100 → (dgd v).length ≤ 2 := by decide +kernel
set_option maxHeartbeats 4000000 in
set_option maxRecDepth 100000 in
theorem dec_one {x : Nat} (hx : x < 10) (w : World) :
   Calls Tryz.prog 112 #[.int .i64 (x : Nat)] w fun e w' => e = .returned (.string (tob (dgd x))) ∧ Below w.heap.size w w' := by
 have i1 : ¬ (x : Int) < -9 := by omega
 have i2 : ¬ (x : Int) < 0 := by omega
 have i3 : (x : Int) < 10 := by omega
 obtain ⟨y,hy⟩ : ∃ y,y = 48 + x := ⟨_,rfl⟩
 have wy : IntKind.i64.wrap (48 + (x : Int)) = (y : Int) := wrap_to (by omega) (by omega)
 have wu : IntKind.u8.wrap (y : Int) = (y : Int) := by
   have h : ∀ y : Nat,y < 58 → IntKind.u8.wrap (y : Int) = (y : Int) := by decide +kernel
   exact h y (by omega)
 have hcv := conv_byte w (y : Int)
 obtain ⟨s,hs⟩ : ∃ s,s = ByteArray.empty.push (UInt8.ofNat ((y : Int)).toNat) := ⟨_,rfl⟩
 rw [← hs] at hcv
 have HS : Hid (s = tob (dgd x)) := by
   show s = _
   rw [hs,hy]; exact dgd_push x hx
 have HB : Hid (Below w.heap.size w (w.alloc (.cells #[.int .u8 (y : Int)] 5))) := (Below.refl _ _).alloc (Nat.le_refl _) _
 clear hs hy
 go_enter Tryz.func112,Tryz.ntmps112
 go_wp2
 go_ret
 exact ⟨by rw [HS.out]; rfl,HB.out⟩
set_option maxHeartbeats 4000000 in
set_option maxRecDepth 100000 in
theorem dec_two {x : Nat} (hx : x < 100) (w : World) :
   Calls Tryz.prog 112 #[.int .i64 (x : Nat)] w fun e w' => e = .returned (.string (tob (dgd x))) ∧ Below w.heap.size w w' := by
 by_cases h : x < 10
 · exact dec_one h w
 have i1 : ¬ (x : Int) < -9 := by omega
 have i2 : ¬ (x : Int) < 0 := by omega
 have i3 : ¬ (x : Int) < 10 := by omega
 obtain ⟨a,ha⟩ : ∃ a,a = x / 10 := ⟨_,rfl⟩
 obtain ⟨b,hb⟩ : ∃ b,b = x % 10 := ⟨_,rfl⟩
 have ha10 : a < 10 := by omega
 have hb10 : b < 10 := by omega
 have d1 : (x : Int).tdiv 10 = (a : Int) := by rw [ha]; rfl
 have d2 : (x : Int).tmod 10 = (b : Int) := by rw [hb]; rfl
 obtain ⟨sa,hsa⟩ : ∃ sa,sa = tob (dgd a) := ⟨_,rfl⟩
 obtain ⟨sb,hsb⟩ : ∃ sb,sb = tob (dgd b) := ⟨_,rfl⟩
 have HD : Hid (sa = tob (dgd a) ∧ sb = tob (dgd b) ∧ sa ++ sb = tob (dgd x)) := by
   refine ⟨hsa,hsb, ?_⟩
   rw [hsa,hsb,tob_app]
   congr 1
   unfold dgd
   rw [if_pos ha10,if_pos hb10,if_neg h,ha,hb]
   rfl
 have hz : ¬ (9223372036854775807 : Int) < (sa.size : Int) + (sb.size : Int) := by
   rw [hsa,hsb,tob_size,tob_size]
   have := dgd_len a (by omega)
   have := dgd_len b (by omega)
   omega
 have hz2 : ¬ 9223372036854775807 < sa.size + sb.size := by omega
 clear ha hb hsa hsb h
 go_enter Tryz.func112,Tryz.ntmps112
 go_wp2_with fail
 refine (dec_one ha10 w).mono ?_
 rintro e w1 ⟨rfl,hb1⟩
 rw [← HD.out.1]
 go_wp2_with fail
 refine (dec_one hb10 w1).mono ?_
 rintro e w2 ⟨rfl,hb2⟩
 rw [← HD.out.2.1]
 have HB : Hid (Below w.heap.size w w2) := bel_up' hb1 hb2
 clear hb1 hb2
 go_wp2
 go_ret
 exact ⟨by rw [← HD.out.2.2]; rfl,HB.out⟩
theorem tlL_snoc (v : Nat) : ∀ l : List Nat,l ≠ [] → tlL (l ++ [v]) = tlL l ++ 32 :: dgd v
 | [],h => absurd rfl h
 | [u],_ => rfl
 | u :: t :: l,_ => by
   show dgd u ++ 32 :: tlL ((t :: l) ++ [v]) = (dgd u ++ 32 :: tlL (t :: l)) ++ 32 :: dgd v
   rw [tlL_snoc v (t :: l) (by simp)]
   simp
theorem tlL_len : ∀ l : List Nat,(∀ v ∈ l,v < 100) → (tlL l).length ≤ 3 * l.length
 | [],_ => Nat.le_refl _
 | [v],h => by have := dgd_len v (h v (by simp)); show (dgd v).length ≤ 3; omega
 | v :: u :: l,h => by
   have := tlL_len (u :: l) (fun x hx => h x (List.mem_cons_of_mem _ hx))
   have h2 := dgd_len v (h v (by simp))
   show (dgd v ++ 32 :: tlL (u :: l)).length ≤ _
   rw [List.length_append,List.length_cons]
   simp only [List.length_cons] at this ⊢
   omega
theorem txL_snoc (l : List Nat) : ∀ L : List (List Nat),txL (L ++ [l]) = txL L ++ (tlL l ++ [10])
 | [] => rfl
 | m :: L => by
   show tlL m ++ 10 :: txL (L ++ [l]) = (tlL m ++ 10 :: txL L) ++ _
   rw [txL_snoc l L]
   simp
theorem take_next {l : List Nat} {i : Nat} (hi : i < l.length) : l.take (i + 1) = l.take i ++ [l.getD i 0] := by
 rw [List.take_succ_eq_append_getElem hi,List.getD_eq_getElem?_getD,List.getElem?_eq_getElem hi]; rfl
set_option maxHeartbeats 4000000 in
set_option maxRecDepth 100000 in
theorem told_any {ao : Option Addr} {n ca : Nat} {z : Nat → Int} {l : List Nat} {w : World} (hs : SlZ ao n z w) (hl : l.length = n) (hz : ∀ j,j < n → z j = ((l.getD j 0 : Nat) : Int)) (hv : ∀ v ∈ l,v < 100) (hn : n ≤ 1000) :
   Calls Tryz.prog 80 #[.slice ao n ca] w fun e w' => e = .returned (.string (tob (tlL l))) ∧ Below w.heap.size w w' := by
 have HA : Hid (SlZ ao n z w ∧ l.length = n ∧ (∀ j,j < n → z j = ((l.getD j 0 : Nat) : Int)) ∧ ∀ v ∈ l,v < 100) := ⟨hs,hl,hz,hv⟩
 clear hs hl hz hv
 go_enter Tryz.func80,Tryz.ntmps80
 go_wp2
 go_loopw [3,4] (fun vs vi wr => ∃ (i : Nat) (s : ByteArray),i ≤ n ∧ vi = .int .i64 (i : Nat) ∧ vs = .string s ∧ s.size ≤ 3000 ∧ Hid (s = tob (tlL (l.take i)) ∧ Below w.heap.size w wr)) (fun _ vi _ => n - (intOf vi).toNat)
 case atStart => exact ⟨0,_,by omega,rfl,rfl,by decide,rfl,Below.refl _ _⟩
 case round =>
   obtain ⟨i,s,hi,rfl,rfl,hs,HI⟩ := hrel
   rename World => wr
   by_cases hlt : i < n
   · have hib : (i : Int) < (n : Int) := by omega
     have hib0 : (0 : Int) ≤ (i : Int) := by omega
     obtain ⟨b,o,rfl,hc0⟩ := HA.out.1 i hlt
     have hcell := (HI.out.2.cell (p := ⟨b,o + i,none⟩) (cell_lt hc0)).trans hc0
     obtain ⟨x,hx⟩ : ∃ x,x = l.getD i 0 := ⟨_,rfl⟩
     rw [HA.out.2.2.1 i hlt, ← hx] at hcell
     have hx100 : x < 100 := by
       rw [hx,List.getD_eq_getElem?_getD,List.getElem?_eq_getElem (by rw [HA.out.2.1]; exact hlt)]
       exact HA.out.2.2.2 _ (List.getElem_mem _)
     obtain ⟨d,hd⟩ : ∃ d,d = tob (dgd x) := ⟨_,rfl⟩
     have hds : d.size ≤ 2 := by rw [hd,tob_size]; exact dgd_len x hx100
     have HD : Hid (d = tob (dgd x) ∧ x = l.getD i 0) := ⟨hd,hx⟩
     have HT : Hid (l.take (i + 1) = l.take i ++ [x]) := by
       show _ = _
       rw [hx]; exact take_next (by rw [HA.out.2.1]; exact hlt)
     have HN : Hid ((tob (tlL (l.take (i + 1)))).size ≤ 3000) := by
       show (tob (tlL (l.take (i + 1)))).size ≤ 3000
       rw [tob_size]
       have := tlL_len (l.take (i + 1)) (fun v hv => HA.out.2.2.2 v (List.mem_of_mem_take hv))
       rw [List.length_take] at this
       omega
     clear hc0 hd hx
     by_cases h0 : i = 0
     · subst h0
       rw [Nat.add_zero] at hcell
       have hz1 : ¬ 9223372036854775807 < s.size + d.size := by omega
       have hz2 : ¬ (9223372036854775807 : Int) < (s.size : Int) + (d.size : Int) := by omega
       go_wp2_with (go_at_call 112; refine (dec_two hx100 wr).mono ?_; rintro e w1 ⟨rfl,hb1⟩; rw [← HD.out.1])
       have HY : Hid (s ++ d = tob (tlL (l.take 1)) ∧ Below w.heap.size w w1) := by
         refine ⟨?_,bel_up' HI.out.2 hb1⟩
         rw [HI.out.1,HD.out.1,tob_app,HT.out]
         rfl
       clear hb1 hcell
       go_roundw
       case rel => exact ⟨1,s ++ d,by omega,by go_num,rfl,by rw [HY.out.1]; exact HN.out,HY.out⟩
       case measure => simp [intOf]; omega
     · have i3 : (0 : Int) < (i : Int) := by omega
       have hz0 : ¬ 9223372036854775807 < s.size + 1 := by omega
       have hz00 : ¬ (9223372036854775807 : Int) < (s.size : Int) + 1 := by omega
       have hz1 : ¬ 9223372036854775807 < s.size + 1 + d.size := by omega
       have hz2 : ¬ (9223372036854775807 : Int) < (s.size : Int) + 1 + (d.size : Int) := by omega
       go_wp2_with (go_at_call 112; refine (dec_two hx100 wr).mono ?_; rintro e w1 ⟨rfl,hb1⟩; rw [← HD.out.1])
       have HY : Hid (s ++ ⟨#[32]⟩ ++ d = tob (tlL (l.take (i + 1))) ∧ Below w.heap.size w w1) := by
         refine ⟨?_,bel_up' HI.out.2 hb1⟩
         have hne : l.take i ≠ [] := by
           intro e
           have := congrArg List.length e
           rw [List.length_take,HA.out.2.1] at this
           simp at this
           omega
         rw [HI.out.1,HD.out.1,HT.out,tlL_snoc x _ hne]
         show tob _ ++ tob [32] ++ tob _ = _
         rw [tob_app,tob_app]
         simp
       clear hb1 hcell
       go_roundw
       case rel => exact ⟨i + 1,_,by omega,by go_num,rfl,by rw [HY.out.1]; exact HN.out,HY.out⟩
       case measure => simp [intOf]; omega
   · have hib : ¬ (i : Int) < (n : Int) := by omega
     have HE : Hid (s = tob (tlL l)) := by
       have h := HI.out.1
       rw [List.take_of_length_le (by rw [HA.out.2.1]; omega)] at h
       exact h
     go_wp2
     go_ret
     exact ⟨by rw [← HE.out]; rfl,HI.out.2⟩
end Go.Proofs.YtinmkgohganllaaGreatDoor
