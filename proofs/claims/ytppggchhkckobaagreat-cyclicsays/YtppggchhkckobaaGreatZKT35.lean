/- Texts of ours, one behind the other: KT35 KT36. -/
import Derived.Test.YtppggchhkckobaaGreatZKT34
import Derived.Test.YtppggchhkckobaaGreatZKT32
import Derived.Test.YtppggchhkckobaaGreatZKT18
import Derived.Test.YtppggchhkckobaaGreatZKT28
import Derived.Test.YtppggchhkckobaaGreatZW13
namespace Go.Proofs.YtppggchhkckobaaGreat
open Go.RowKit Go.Sort
def CsT (e : Int) (Ls : List (List Nat)) (base : Nat) (v : Value) (w : World) : Prop := (e = 0 → NLs base v Ls w) ∧ (e ≠ 0 → v = .slice none 0 0)
def GnT (e : Int) (N : Nat) (g : Nat → Int) (v : Value) (w : World) : Prop := ∃ ao n ca,v = .slice ao n ca ∧ (e = 0 → n = N ∧ Arg ao n ca g w) ∧ (e ≠ 0 → n = 0)
def CoP (f : FuncId) (args : Array Value) (S q : Int) (nn : Nat) (K : Nat → (Nat → Nat → Nat) → Prop) (w : World) : Prop := ∀ wx,Below w.heap.size w wx → Calls Tryz.prog f args wx fun x w' => ∃ qa na o k c,x = .returned (.tuple #[.agg #[.int .i64 qa, .int .i64 na, .slice o k c], .int .i64 S]) ∧ ToldP S q nn K qa na o k c w' ∧ Below wx.heap.size wx w'
def CoR (f : FuncId) (args : Array Value) (S q : Int) (nn : Nat) (K : Nat → (Nat → Nat → Nat) → Prop) (w : World) : Prop := ∀ wx,Below w.heap.size w wx → Calls Tryz.prog f args wx fun x w' => ∃ qa na o k c,x = .returned (.tuple #[.agg #[.int .i64 qa, .int .i64 na, .slice o k c], .int .i64 S]) ∧ ToldR S q nn w.heap.size K qa na o k c w' ∧ Below wx.heap.size wx w'
def CoB (f g : FuncId) (args : Array Value) (w : World) : Prop := ∃ S q nn K,UniF K ∧ nn ≤ 1000 ∧ CoP f args S q nn K w ∧ CoR g args S q nn K w
theorem CoB.err {f g : FuncId} {args : Array Value} {w : World} {e : Int} (h0 : e ≠ 0) (h1 : ∀ wx,Below w.heap.size w wx → Calls Tryz.prog f args wx (CEr e wx)) (h2 : ∀ wx,Below w.heap.size w wx → Calls Tryz.prog g args wx (CEr e wx)) : CoB f g args w := by
 refine ⟨e,0,0,fun _ _ => False,fun _ _ _ _ h => h.elim,by omega,fun wx hx => (h1 wx hx).mono ?_,fun wx hx => (h2 wx hx).mono ?_⟩
 · rintro x w' ⟨rfl,hb⟩
   exact ⟨0,0,none,0,0,rfl,⟨fun e => absurd e h0,fun _ => ⟨rfl,rfl,rfl,rfl,rfl⟩⟩,hb⟩
 · rintro x w' ⟨rfl,hb⟩
   exact ⟨0,0,none,0,0,rfl,fun e => absurd e h0,hb⟩
theorem ToldR.mono {S q : Int} {nn base base' : Nat} {K : Nat → (Nat → Nat → Nat) → Prop} {qa na : Int} {o : Option Addr} {k c : Nat} {w : World} (h : ToldR S q nn base K qa na o k c w) (hb : base' ≤ base) : ToldR S q nn base' K qa na o k c w := fun e => by
 obtain ⟨h1,h2,h3,R,h4,h5⟩ := h e
 exact ⟨h1,h2,h3,R,h4.mono hb,h5⟩
def CsB (q n : Int) (w : World) : Prop := ∃ e Ls,Ls.length ≤ 1000 ∧ (∀ c ∈ Ls,c.length ≤ 1000) ∧
 (∀ wx,Below w.heap.size w wx → Calls Tryz.prog 7 #[.int .i64 q, .int .i64 n] wx fun x w' => ∃ v,x = .returned (.tuple #[v, .int .i64 e]) ∧ CsT e Ls w.heap.size v w' ∧ Below wx.heap.size wx w') ∧
 (∀ wx,Below w.heap.size w wx → Calls Tryz.prog 8 #[.int .i64 q, .int .i64 n] wx fun x w' => ∃ v,x = .returned (.tuple #[v, .int .i64 e]) ∧ CsT e Ls w.heap.size v w' ∧ Below wx.heap.size wx w')
theorem NLs.mono {base base' : Nat} {v : Value} {Ls : List (List Nat)} {w : World} (h : NLs base v Ls w) (hb : base' ≤ base) : NLs base' v Ls w := by
 obtain ⟨l,h1,h2,h3⟩ := h
 exact ⟨l,h1.mono hb,h2,fun j u c hu hc => (h3 j u c hu hc).mono hb⟩
theorem cos_both (q n : Int) (w : World) : CsB q n w := by
 have herr : ∀ e : Int,e ≠ 0 → (∀ wx,Calls Tryz.prog 7 #[.int .i64 q, .int .i64 n] wx fun x w' => x = .returned (.tuple #[.slice none 0 0, .int .i64 e]) ∧ Below wx.heap.size wx w') → (∀ wx,Calls Tryz.prog 8 #[.int .i64 q, .int .i64 n] wx fun x w' => x = .returned (.tuple #[.slice none 0 0, .int .i64 e]) ∧ Below wx.heap.size wx w') → CsB q n w := fun e h0 h1 h2 => by
   refine ⟨e, [],by simp,fun c hc => (by cases hc),fun wx _ => (h1 wx).mono ?_,fun wx _ => (h2 wx).mono ?_⟩
   · rintro x w' ⟨rfl,hb⟩
     exact ⟨_,rfl,⟨fun e => absurd e h0,fun _ => rfl⟩,hb⟩
   · rintro x w' ⟨rfl,hb⟩
     exact ⟨_,rfl,⟨fun e => absurd e h0,fun _ => rfl⟩,hb⟩
 by_cases hf : ∃ E ∈ fieldsL,(E.q : Int) = q
 · obtain ⟨E,hE,rfl⟩ := hf
   by_cases hc : cyc E n = 0
   · obtain ⟨N,rfl,n1,n2,n3⟩ := cyc_ok hc
     refine ⟨0,cosL E.q N N, ?_,fun c hc => ?_,fun wx hx => (pcos_ok hE n1 n2 n3 wx).mono ?_,fun wx hx => (rcos_ok hE n1 n2 n3 wx).mono ?_⟩
     · have := List.length_filter_le (fun j => !inB E.q N j j) (List.range N)
       unfold cosL
       rw [List.length_map]
       simp at this
       omega
     · obtain ⟨j,_,rfl⟩ := cosL_is hc
       exact Nat.le_trans cosR_len (by omega)
     · rintro x w' ⟨v,rfl,h1,h2⟩
       exact ⟨v,rfl,⟨fun _ => h1.mono hx.size,fun h => absurd rfl h⟩,h2⟩
     · rintro x w' ⟨v,rfl,h1,h2⟩
       exact ⟨v,rfl,⟨fun _ => h1.mono hx.size,fun h => absurd rfl h⟩,h2⟩
   · exact herr _ hc (fun wx => pcos_err hc (cychk_any hE n wx)) (fun wx => rcos_err hE hc wx)
 · have hn : ∀ D ∈ fieldsL,(D.q : Int) ≠ q := fun D hD e => hf ⟨D,hD,e⟩
   exact herr 1 (by omega) (fun wx => pcos_err (by omega) ((cychk_none q n wx hn).mono (by rintro x w' ⟨rfl,rfl⟩; exact ⟨rfl,Below.refl _ _⟩))) (fun wx => rcos_none q n wx hn)
structure ZrO (E : FD) (n : Int) (m : Nat) (z : Nat → Int) (N : Nat) (y : Nat → Nat) : Prop where
 en : n = (N : Int)
 n1 : 1 ≤ N
 n64 : N ≤ 64
 pp : N % E.p ≠ 0
 mm : m ≤ 64
 ez : ∀ i,i < m → z i = ((y i : Nat) : Int)
 lt : ∀ i,i < m → y i < N
theorem czs_ok {E : FD} {n : Int} {m : Nat} {z : Nat → Int} (h : czs (cyc E n) n m z = 0) : ∃ N y,ZrO E n m z N y := by
 unfold czs at h
 by_cases c : cyc E n = 0
 · rw [if_neg (by omega)] at h
   by_cases c1 : 64 < m
   · rw [if_pos c1] at h; cases h
   · rw [if_neg c1] at h
     by_cases c2 : anyB (fun j => cout n (z j)) m = true
     · rw [if_pos c2] at h; cases h
     · obtain ⟨N,e,n1,n2,n3⟩ := cyc_ok c
       have hz : ∀ i,i < m → 0 ≤ z i ∧ z i < n := fun i hi => by
         cases hc : cout n (z i) with
         | true => exact absurd (anyB_yes hc m hi) c2
         | false =>
           unfold cout at hc
           rw [Bool.or_eq_false_iff] at hc
           have h1 := of_decide_eq_false hc.1
           have h2 := of_decide_eq_false hc.2
           exact ⟨by omega,by omega⟩
       exact ⟨N,fun i => (z i).toNat,e,n1,n2,n3,by omega,fun i hi => by have := hz i hi; omega,fun i hi => by have := hz i hi; show (z i).toNat < N; omega⟩
 · rw [if_pos c] at h
   exact absurd h c
theorem ZrO.sl {E : FD} {n : Int} {m N : Nat} {z : Nat → Int} {y : Nat → Nat} (h : ZrO E n m z N y) {zo : Option Addr} {w : World} (hs : SlZ zo m z w) : SlZ zo m (fun i => ((y i : Nat) : Int)) w := fun i hi => by
 obtain ⟨b,off,e,c⟩ := hs i hi
 exact ⟨b,off,e,by rw [c,h.ez i hi]⟩
theorem rzer_any {E : FD} (hE : E ∈ fieldsL) (n : Int) {zo : Option Addr} {m zc : Nat} {z : Nat → Int} {w : World} (hs : SlZ zo m z w) (hl : LtB zo w.heap.size) (hm : m ≤ 1000000) :
   (czs (cyc E n) n m z ≠ 0 → Calls Tryz.prog 43 #[.int .i64 E.q, .int .i64 n, .slice zo m zc] w fun x w' => x = .returned (.tuple #[.slice none 0 0, .int .i64 (czs (cyc E n) n m z)]) ∧ Below w.heap.size w w') ∧
   (∀ N y,ZrO E n m z N y → Calls Tryz.prog 43 #[.int .i64 E.q, .int .i64 n, .slice zo m zc] w fun x w' => ∃ v,x = .returned (.tuple #[v, .int .i64 0]) ∧ OwnI w.heap.size v (nzl (zrL E.q N y m)) w' ∧ Below w.heap.size w w') := by
 refine ⟨fun h => ?_,fun N y hz => ?_⟩
 · by_cases c : cyc E n = 0
   · obtain ⟨N,e,n1,n2,n3⟩ := cyc_ok c
     have hC := rcos_ok hE n1 n2 n3 w
     rw [← e] at hC
     unfold czs at h ⊢
     rw [if_neg (by omega)] at h ⊢
     by_cases c1 : 64 < m
     · rw [if_pos c1]
       exact rzer_e2 c1 hm hC
     · rw [if_neg c1] at h ⊢
       by_cases c2 : anyB (fun j => cout n (z j)) m = true
       · rw [if_pos c2]
         exact rzer_e3 (by omega) hs hl c2 hC
       · rw [if_neg c2] at h
         exact absurd rfl h
   · have e : czs (cyc E n) n m z = cyc E n := by unfold czs; rw [if_pos c]
     rw [e]
     exact rzer_e1 c (rcos_err hE c w)
 · have e := hz.en
   subst e
   exact rzer_ok (ord_of hE hz.n1 hz.n64 hz.pp) hz.n1 hz.n64 hz.mm (hz.sl hs) hl hz.lt (rcos_ok hE hz.n1 hz.n64 hz.pp w)
theorem rzer_no (q n : Int) (hn : ∀ D ∈ fieldsL, (D.q : Int) ≠ q) (zo : Option Addr) (m zc : Nat) (w : World) :
   Calls Tryz.prog 43 #[.int .i64 q, .int .i64 n, .slice zo m zc] w fun x w' => x = .returned (.tuple #[.slice none 0 0, .int .i64 1]) ∧ Below w.heap.size w w' := rzer_e1 (by omega) (rcos_none q n w hn)
theorem pzer_no (q n : Int) (hn : ∀ D ∈ fieldsL, (D.q : Int) ≠ q) {zo : Option Addr} {m zc : Nat} {z : Nat → Int} {w : World} (hs : SlZ zo m z w) (hl : LtB zo w.heap.size) (hm : m ≤ 1000000) :
   Calls Tryz.prog 35 #[.int .i64 q, .int .i64 n, .slice zo m zc] w fun x w' => x = .returned (.int .i64 1) ∧ Below w.heap.size w w' := by
 have h := czeros_any (zc := zc) (e := 1) (q := q) (n := n) hs hl hm (fun w1 => (cychk_none q n w1 hn).mono (by rintro x w' ⟨rfl,rfl⟩; exact ⟨rfl,Below.refl _ _⟩))
 have e : czs 1 n m z = 1 := by unfold czs; rw [if_pos (by omega)]
 rw [e] at h
 exact h
theorem gen_two {E : FD} (hE : E ∈ fieldsL) {N : Nat} (n1 : 1 ≤ N) (n2 : N ≤ 64) (n3 : N % E.p ≠ 0) (y : Nat → Nat) (m : Nat) (hm : m ≤ 64) (hy : ∀ i, i < m → y i < N) :
   (WRn E N ∧ (∀ wx zo zc,SlZ zo m (fun i => ((y i : Nat) : Int)) wx → LtB zo wx.heap.size → Calls Tryz.prog 10 #[.int .i64 E.q, .int .i64 (N : Nat), .slice zo m zc] wx fun x w' => x = .returned (.tuple #[.slice none 0 0, .int .i64 4]) ∧ Below wx.heap.size wx w') ∧
     (∀ wx zo zc,SlZ zo m (fun i => ((y i : Nat) : Int)) wx → LtB zo wx.heap.size → Calls Tryz.prog 11 #[.int .i64 E.q, .int .i64 (N : Nat), .slice zo m zc] wx fun x w' => x = .returned (.tuple #[.slice none 0 0, .int .i64 4]) ∧ Below wx.heap.size wx w')) ∨
   (Szo E N ∧ ∃ G,WR E N G ∧ (∀ wx zo zc,SlZ zo m (fun i => ((y i : Nat) : Int)) wx → LtB zo wx.heap.size → Calls Tryz.prog 10 #[.int .i64 E.q, .int .i64 (N : Nat), .slice zo m zc] wx fun x w' => ∃ ao ca,x = .returned (.tuple #[.slice ao ((zrL E.q N y m).length + 1 : Nat) ca, .int .i64 0]) ∧ Arg ao ((zrL E.q N y m).length + 1) ca (fun k => ((gnr G E (G.xp G.gen ((G.q - 1) / N)) (zrL E.q N y m) k : Nat) : Int)) w' ∧ Below wx.heap.size wx w') ∧
     (∀ wx zo zc,SlZ zo m (fun i => ((y i : Nat) : Int)) wx → LtB zo wx.heap.size → Calls Tryz.prog 11 #[.int .i64 E.q, .int .i64 (N : Nat), .slice zo m zc] wx fun x w' => ∃ ao ca,x = .returned (.tuple #[.slice ao ((zrL E.q N y m).length + 1 : Nat) ca, .int .i64 0]) ∧ Arg ao ((zrL E.q N y m).length + 1) ca (fun k => ((gnr G E (G.xp G.gen ((G.q - 1) / N)) (zrL E.q N y m) k : Nat) : Int)) w' ∧ Below wx.heap.size wx w')) := by
 have hO := ord_of hE n1 n2 n3
 have hcyc : cyc E (N : Int) = 0 := by unfold cyc; rw [if_neg (by omega),Int.toNat_natCast,if_neg n3]
 have hZ : ∀ wx zo zc,SlZ zo m (fun i => ((y i : Nat) : Int)) wx → LtB zo wx.heap.size → Calls Tryz.prog 35 #[.int .i64 E.q, .int .i64 (N : Nat), .slice zo m zc] wx fun x w' => x = .returned (.int .i64 0) ∧ Below wx.heap.size wx w' := fun wx zo zc hs hl => by
   have hc := czeros_any (zc := zc) (e := cyc E (N : Int)) (q := E.q) (n := (N : Nat)) hs hl (by omega) (fun w1 => cychk_any hE (N : Int) w1)
   have e : czs (cyc E (N : Int)) (N : Int) m (fun i => ((y i : Nat) : Int)) = 0 := by
     unfold czs
     rw [hcyc,if_neg (by omega),if_neg (by omega),if_neg]
     rw [anyB_no m (fun j hj => ?_)]
     · intro c; cases c
     · have := hy j hj
       show (decide (((y j : Nat) : Int) < 0) || decide ((N : Int) ≤ ((y j : Nat) : Int))) = false
       rw [decide_eq_false (by omega),decide_eq_false (by omega)]; rfl
   rw [e] at hc
   exact hc
 have hRZ : ∀ wx zo zc,SlZ zo m (fun i => ((y i : Nat) : Int)) wx → LtB zo wx.heap.size → Calls Tryz.prog 43 #[.int .i64 E.q, .int .i64 (N : Nat), .slice zo m zc] wx fun x w' => ∃ v,x = .returned (.tuple #[v, .int .i64 0]) ∧ OwnI wx.heap.size v (nzl (zrL E.q N y m)) w' ∧ Below wx.heap.size wx w' := fun wx zo zc hs hl => rzer_ok hO n1 n2 hm hs hl hy (rcos_ok hE n1 n2 n3 wx)
 by_cases hW : WRn E N
 · refine Or.inl ⟨hW,fun wx zo zc hs hl => cgen_e2 (hZ wx zo zc hs hl) (fun w1 => (withRoot_any hE n1 n2 w1).mono ?_),fun wx zo zc hs hl => rgen_e2 hE n1 n2 hW (hRZ wx zo zc hs hl)⟩
   rintro x w' (⟨G,F,T,g,_,hG,_⟩ | ⟨rfl,_,rfl⟩)
   · obtain ⟨i,e,_⟩ := hG.least
     refine absurd hG.root ?_
     rw [e]
     exact hW i (by rw [← e]; exact (good hG.fld).q64)
   · exact ⟨rfl,rfl⟩
 · have hs : Szo E N := ⟨hE,n1,n2,n3,hW⟩
   obtain ⟨G,hG,hR⟩ := hs.wr
   refine Or.inr ⟨hs,G,hG,fun wx zo zc hz hl => (cgen_ok hE hG hO n1 n2 hm hz hl hy (hZ wx zo zc hz hl) hR).mono ?_,fun wx zo zc hz hl => rgen_ok hE hG hO n1 n2 (zrL_nd _ _ _ _) zrL_lt (zrL_cl (by omega)) (hRZ wx zo zc hz hl)⟩
   rintro x w' ⟨v,L,rfl,hL,ho,hb⟩
   rw [rsn_zrL (by omega) hL] at ho
   obtain ⟨ao,ca,rfl,hA⟩ := ho.argL
   exact ⟨ao,ca,rfl,hA.arg (by have := zrL_len (q := E.q) (n := N) (m := m) (z := y); omega),hb⟩
def GnB (q n : Int) (zo : Option Addr) (m zc : Nat) (w : World) : Prop := ∃ e N g,N ≤ 1000 ∧
 (∀ wx,Below w.heap.size w wx → Calls Tryz.prog 10 #[.int .i64 q, .int .i64 n, .slice zo m zc] wx fun x w' => ∃ v,x = .returned (.tuple #[v, .int .i64 e]) ∧ GnT e N g v w' ∧ Below wx.heap.size wx w') ∧
 (∀ wx,Below w.heap.size w wx → Calls Tryz.prog 11 #[.int .i64 q, .int .i64 n, .slice zo m zc] wx fun x w' => ∃ v,x = .returned (.tuple #[v, .int .i64 e]) ∧ GnT e N g v w' ∧ Below wx.heap.size wx w')
theorem GnB.err {q n : Int} {zo : Option Addr} {m zc : Nat} {w : World} {e : Int} (h0 : e ≠ 0)
   (h1 : ∀ wx,Below w.heap.size w wx → Calls Tryz.prog 10 #[.int .i64 q, .int .i64 n, .slice zo m zc] wx fun x w' => x = .returned (.tuple #[.slice none 0 0, .int .i64 e]) ∧ Below wx.heap.size wx w')
   (h2 : ∀ wx,Below w.heap.size w wx → Calls Tryz.prog 11 #[.int .i64 q, .int .i64 n, .slice zo m zc] wx fun x w' => x = .returned (.tuple #[.slice none 0 0, .int .i64 e]) ∧ Below wx.heap.size wx w') : GnB q n zo m zc w := by
 refine ⟨e,0,fun _ => 0,by omega,fun wx hx => (h1 wx hx).mono ?_,fun wx hx => (h2 wx hx).mono ?_⟩
 · rintro x w' ⟨rfl,hb⟩
   exact ⟨_,rfl,⟨none,0,0,rfl,fun h => absurd h h0,fun _ => rfl⟩,hb⟩
 · rintro x w' ⟨rfl,hb⟩
   exact ⟨_,rfl,⟨none,0,0,rfl,fun h => absurd h h0,fun _ => rfl⟩,hb⟩
theorem gen_both (q n : Int) {zo : Option Addr} {m zc : Nat} {z : Nat → Int} {w : World} (hs : Arg zo m zc z w) : GnB q n zo m zc w := by
 by_cases hf : ∃ E ∈ fieldsL,(E.q : Int) = q
 · obtain ⟨E,hE,rfl⟩ := hf
   by_cases hc : czs (cyc E n) n m z = 0
   · obtain ⟨N,y,hz⟩ := czs_ok hc
     have e := hz.en
     subst e
     rcases gen_two hE hz.n1 hz.n64 hz.pp y m hz.mm hz.lt with ⟨_,h1,h2⟩ | ⟨_,G,_,h1,h2⟩
     · exact GnB.err (e := 4) (by omega) (fun wx hx => h1 wx zo zc (hz.sl (hs.below hx).sl) (hs.below hx).lt) (fun wx hx => h2 wx zo zc (hz.sl (hs.below hx).sl) (hs.below hx).lt)
     · refine ⟨0,(zrL E.q N y m).length + 1,(fun k => ((gnr G E (G.xp G.gen ((G.q - 1) / N)) (zrL E.q N y m) k : Nat) : Int)), ?_,fun wx hx => (h1 wx zo zc (hz.sl (hs.below hx).sl) (hs.below hx).lt).mono ?_,fun wx hx => (h2 wx zo zc (hz.sl (hs.below hx).sl) (hs.below hx).lt).mono ?_⟩
       · have := zrL_len (q := E.q) (n := N) (m := m) (z := y)
         have := hz.n64
         show (zrL E.q N y m).length + 1 ≤ 1000
         omega
       · rintro x w' ⟨ao,ca,rfl,hA,hb⟩
         exact ⟨_,rfl,⟨ao,_,ca,rfl,fun _ => ⟨rfl,hA⟩,fun h => absurd rfl h⟩,hb⟩
       · rintro x w' ⟨ao,ca,rfl,hA,hb⟩
         exact ⟨_,rfl,⟨ao,_,ca,rfl,fun _ => ⟨rfl,hA⟩,fun h => absurd rfl h⟩,hb⟩
   · exact GnB.err hc (fun wx hx => cgen_e1 hc (czeros_any (hs.below hx).sl (hs.below hx).lt hs.few (fun w1 => cychk_any hE n w1))) (fun wx hx => rgen_e1 hc ((rzer_any hE n (hs.below hx).sl (hs.below hx).lt hs.few).1 hc))
 · have hn : ∀ D ∈ fieldsL,(D.q : Int) ≠ q := fun D hD e => hf ⟨D,hD,e⟩
   exact GnB.err (e := 1) (by omega) (fun wx hx => cgen_e1 (by omega) (pzer_no q n hn (hs.below hx).sl (hs.below hx).lt hs.few)) (fun wx hx => rgen_e1 (by omega) (rzer_no q n hn zo m zc wx))
def BdB (q n : Int) (zo : Option Addr) (m zc : Nat) (w : World) : Prop := ∃ e k : Int,(e ≠ 0 → k = 0) ∧
 (∀ wx,Below w.heap.size w wx → Calls Tryz.prog 13 #[.int .i64 q, .int .i64 n, .slice zo m zc] wx fun x w' => x = .returned (.tuple #[.int .i64 k, .int .i64 e]) ∧ Below wx.heap.size wx w') ∧
 (∀ wx,Below w.heap.size w wx → Calls Tryz.prog 14 #[.int .i64 q, .int .i64 n, .slice zo m zc] wx fun x w' => x = .returned (.tuple #[.int .i64 k, .int .i64 e]) ∧ Below wx.heap.size wx w')
theorem bnr_same {n : Nat} {L L' : List Nat} (h : ∀ x,x ∈ L ↔ x ∈ L') : bnr n L = bnr n L' := by
 have e : (fun x => L.contains x) = fun x => L'.contains x := by
   funext x
   rw [Bool.eq_iff_iff,List.contains_iff_mem,List.contains_iff_mem]
   exact h x
 unfold bnr
 rw [e]
theorem bnd_both (q n : Int) {zo : Option Addr} {m zc : Nat} {z : Nat → Int} {w : World} (hs : Arg zo m zc z w) : BdB q n zo m zc w := by
 by_cases hf : ∃ E ∈ fieldsL,(E.q : Int) = q
 · obtain ⟨E,hE,rfl⟩ := hf
   by_cases hc : czs (cyc E n) n m z = 0
   · obtain ⟨N,y,hz⟩ := czs_ok hc
     have e := hz.en
     subst e
     refine ⟨0,((bnr N (zrL E.q N y m) + 1 : Nat) : Int),fun h => absurd rfl h,fun wx hx => ?_,fun wx hx => ?_⟩
     · have hC := czeros_any (zc := zc) (hs.below hx).sl (hs.below hx).lt hs.few (fun w1 => cychk_any hE (N : Int) w1)
       rw [hc] at hC
       refine (bound_ok (fld hE).q64 hz.n1 hz.n64 (by have := hz.mm; omega) (hz.sl (hs.below hx).sl) (hs.below hx).lt hz.lt hC).mono ?_
       rintro x w' ⟨L,rfl,hL,hb⟩
       refine ⟨?_,hb⟩
       rw [bnr_same (L := L) (L' := zrL E.q N y m) (fun x => (hL.mem x).trans (zrL_mem (by have := hz.n1; omega)).symm)]
     · refine rbound_ok (l := nzl (zrL E.q N y m)) hz.n1 hz.n64 (fun x _ => ?_) (((rzer_any hE (N : Int) (zc := zc) (hs.below hx).sl (hs.below hx).lt hs.few).2 N y hz).mono ?_)
       · rw [Bool.eq_iff_iff,decide_eq_true_iff,List.contains_iff_mem]
         unfold nzl
         rw [List.mem_map]
         constructor
         · rintro ⟨a,ha,e⟩
           have : a = x := by omega
           rw [← this]; exact ha
         · exact fun h => ⟨x,h,rfl⟩
       · rintro x w' ⟨v,rfl,ho,hb⟩
         refine ⟨v,rfl,fun wy hy => ?_,hb⟩
         have ho2 := ho.below hy (fun i hi => (ho.lt i hi).2)
         obtain ⟨ao,ca,rfl,hA⟩ := ho2.argOf rfl
         have h := cy_slI (cap := ca) hA.sl (by have := zrL_len (q := E.q) (n := N) (m := m) (z := y); have := hz.n64; unfold nzl; rw [List.length_map]; omega)
         rw [← list_zl] at h
         exact h
   · refine ⟨czs (cyc E n) n m z,0,fun _ => rfl,fun wx hx => bound_err hc (czeros_any (hs.below hx).sl (hs.below hx).lt hs.few (fun w1 => cychk_any hE n w1)),fun wx hx => rbound_err hc ((rzer_any hE n (hs.below hx).sl (hs.below hx).lt hs.few).1 hc)⟩
 · have hn : ∀ D ∈ fieldsL,(D.q : Int) ≠ q := fun D hD e => hf ⟨D,hD,e⟩
   exact ⟨1,0,fun _ => rfl,fun wx hx => bound_err (by omega) (pzer_no q n hn (hs.below hx).sl (hs.below hx).lt hs.few),fun wx hx => rbound_err (by omega) (rzer_no q n hn zo m zc wx)⟩
theorem of_both (q n : Int) {go : Option Addr} {m cg : Nat} {z : Nat → Int} {w : World} (hs : Arg go m cg z w) : CoB 16 17 #[.int .i64 q, .int .i64 n, .slice go m cg] w := by
 by_cases hf : ∃ E ∈ fieldsL,(E.q : Int) = q
 · obtain ⟨E,hE,rfl⟩ := hf
   have hP : ∀ wx,Below w.heap.size w wx → ∀ wy,Below wx.heap.size wx wy → Calls Tryz.prog 54 #[.int .i64 E.q, .slice go m cg] wy fun x w' => x = .returned (.int .i64 (E.chk m z)) ∧ Below wy.heap.size wy w' := fun wx hx wy hy => check_any hE (hs.below (bel_up' hx hy)).sl (hs.below (bel_up' hx hy)).lt hs.few
   have hR : ∀ wx,Below w.heap.size w wx → ∀ wy,Below wx.heap.size wx wy → Calls Tryz.prog 58 #[.int .i64 E.q, .slice go m cg] wy fun x w' => x = .returned (.int .i64 (E.chk m z)) ∧ Below wy.heap.size wy w' := fun wx hx wy hy => polyMay_any hE (hs.below (bel_up' hx hy)).sl (hs.below (bel_up' hx hy)).lt hs.few
   by_cases hc : E.chk m z = 0
   · rw [hc] at hP hR
     by_cases hn : n < 1 ∨ 64 < n
     · exact CoB.err (e := 4) (by omega) (fun wx hx => pof_e2 hn (hP wx hx)) (fun wx hx => rof_e2 hn (hR wx hx))
     · obtain ⟨N,rfl⟩ : ∃ N : Nat,n = (N : Int) := ⟨n.toNat,by omega⟩
       refine ⟨ofS E N m (zc m z),E.q,N - 1,ofK E N m (zc m z),ofK_uni hE N m (zc m z),by omega,fun wx hx => (pof_any hE (hs.below hx) hc (by omega) (by omega) (show N = N - 1 + 1 by omega)).mono ?_,fun wx hx => (rof_any hE (hs.below hx) hc (by omega) (by omega) (show N = N - 1 + 1 by omega)).mono ?_⟩
       · rintro x w' ⟨qa,na,o,k,c,rfl,hT,hb⟩
         exact ⟨qa,na,o,k,c,rfl,hT.told,hb⟩
       · rintro x w' ⟨qa,na,o,k,c,rfl,hT,hb⟩
         exact ⟨qa,na,o,k,c,rfl,hT.mono hx.size,hb⟩
   · exact CoB.err hc (fun wx hx => pof_e1 hc (hP wx hx)) (fun wx hx => rof_e1 hc (hR wx hx))
 · have hn : ∀ D ∈ fieldsL,(D.q : Int) ≠ q := fun D hD e => hf ⟨D,hD,e⟩
   exact CoB.err (e := 1) (by omega) (fun wx hx => pof_e1 (by omega) (fun wy hy => (check_none q hn _ wy).mono (by rintro x w' ⟨rfl,rfl⟩; exact ⟨rfl,Below.refl _ _⟩))) (fun wx hx => rof_e1 (by omega) (fun wy hy => polyMay_none q hn go m cg wy))
theorem gen_cod {E G : FD} {N nn m : Nat} {y : Nat → Nat} (hs : Szo E N) (hG : WR E N G) (hnn : N = nn + 1) {ao : Option Addr} {ca : Nat} {w : World} (hA : Arg ao ((zrL E.q N y m).length + 1) ca (fun k => ((gnr G E (G.xp G.gen ((G.q - 1) / N)) (zrL E.q N y m) k : Nat) : Int)) w) :
   Calls Tryz.prog 17 #[.int .i64 E.q, .int .i64 (N : Nat), .slice ao ((zrL E.q N y m).length + 1 : Nat) ca] w fun x w' => ∃ qa na o k cc,x = .returned (.tuple #[.agg #[.int .i64 qa, .int .i64 na, .slice o k cc], .int .i64 0]) ∧ ToldR 0 E.q nn w.heap.size (zrK E N y m) qa na o k cc w' ∧ Below w.heap.size w w' := by
 obtain ⟨g1,g2,g3⟩ := gen_of hs hG (zrL_nd E.q N y m) zrL_lt (zrL_cl (by have := hs.n1; omega))
 have hz1 := zc_natg g2
 have hh := rof_any hs.fld hA (chk_natg g1 (by have := zrL_len (q := E.q) (n := N) (m := m) (z := y); have := hs.n64; omega)) hs.n1 hs.n64 hnn
 rw [hz1,g3] at hh
 refine hh.mono ?_
 rintro x w' ⟨qa,na,o,k,cc,rfl,hT,hb⟩
 refine ⟨qa,na,o,k,cc,rfl,fun e => ?_,hb⟩
 obtain ⟨q1,q2,q3,R,q4,q5⟩ := hT e
 exact ⟨q1,q2,q3,R,q4,G,hG,q5⟩
def TzE (S : Int) (qv nv : Int) (so : Option Addr) (sk sc : Nat) (e : Int) (_w : World) : Prop := e = S ∧ qv = 0 ∧ nv = 0 ∧ so = none ∧ sk = 0 ∧ sc = 0
def TzM (q : Int) (nn base : Nat) (K : Nat → (Nat → Nat → Nat) → Prop) (qv nv : Int) (so : Option Addr) (sk sc : Nat) (e : Int) (w : World) : Prop := e = 0 ∧ ToldM 0 q nn base K qv nv so sk sc w
theorem bch_both (q n f m : Int) (w : World) : CoB 18 19 #[.int .i64 q, .int .i64 n, .int .i64 f, .int .i64 m] w := by
 by_cases hf : ∃ E ∈ fieldsL,(E.q : Int) = q
 · obtain ⟨E,hE,rfl⟩ := hf
   by_cases hc : cyc E n = 0
   · obtain ⟨N,rfl,n1,n2,n3⟩ := cyc_ok hc
     have hP : ∀ wx wy,Below wx.heap.size wx wy → Calls Tryz.prog 30 #[.int .i64 E.q, .int .i64 (N : Nat)] wy fun x w' => x = .returned (.int .i64 0) ∧ Below wy.heap.size wy w' := fun wx wy _ => by
       have h := cychk_any hE (N : Int) wy
       rw [hc] at h; exact h
     have hR : ∀ wx wy,Below wx.heap.size wx wy → Calls Tryz.prog 8 #[.int .i64 E.q, .int .i64 (N : Nat)] wy fun x w' => ∃ v,x = .returned (.tuple #[v, .int .i64 0]) ∧ (fun _ _ => True) v w' ∧ Below wy.heap.size wy w' := fun wx wy _ => (rcos_ok hE n1 n2 n3 wy).mono (by rintro x w' ⟨v,rfl,_,hb⟩; exact ⟨v,rfl,trivial,hb⟩)
     by_cases h1 : f < 0 ∨ (N : Int) ≤ f
     · exact CoB.err (e := 10) (by omega) (fun wx hx => bch_e2 h1 (hP wx)) (fun wx hx => rbch_e2 (P := fun _ _ => True) h1 (hR wx))
     · by_cases h2 : m < 0 ∨ (N : Int) ≤ m
       · exact CoB.err (e := 6) (by omega) (fun wx hx => bch_e3 (by omega) (by omega) h2 (hP wx)) (fun wx hx => rbch_e3 (P := fun _ _ => True) (by omega) (by omega) h2 (hR wx))
       · obtain ⟨f',rfl⟩ : ∃ f' : Nat,f = (f' : Int) := ⟨f.toNat,by omega⟩
         obtain ⟨m',rfl⟩ : ∃ m' : Nat,m = (m' : Int) := ⟨m.toNat,by omega⟩
         have hy : ∀ i,i < m' → bzrow N f' i < N := fun i _ => Nat.mod_lt _ (by omega)
         rcases gen_two hE n1 n2 n3 (bzrow N f') m' (by omega) hy with ⟨_,g1,g2⟩ | ⟨hs,G,hG,g1,g2⟩
         · refine ⟨4,0,0,fun _ _ => False,fun _ _ _ _ h => h.elim,by omega,fun wx hx => ?_,fun wx hx => ?_⟩
           · refine (bch_z (T := TzE 4) n1 n2 (by omega) (by omega) (hP wx) (fun wy zo zc hsz hz hl => (zat_err (e := 4) (by omega) (fun wv hv => g1 wv zo zc (slz_bel hz hl hv).1 (slz_bel hz hl hv).2)).mono ?_) (fun _ _ _ _ _ _ _ h => h)).mono ?_
             · rintro x w' ⟨rfl,hb⟩
               exact ⟨0,0,none,0,0,4,rfl,⟨rfl,rfl,rfl,rfl,rfl,rfl⟩,hb⟩
             · rintro x w' ⟨qv,nv,so,sk,sc,e,rfl,⟨rfl,rfl,rfl,rfl,rfl,rfl⟩,hb⟩
               exact ⟨0,0,none,0,0,rfl,⟨fun e => (by cases e),fun _ => ⟨rfl,rfl,rfl,rfl,rfl⟩⟩,hb⟩
           · refine (rbch_z (nn := 0) (S := 4) (qq := 0) (K := fun _ _ => False) (P := fun _ _ => True) n1 n2 (by omega) (by omega) (hR wx) (fun wy zo zc hsz hz hl => (g2 wy zo zc hz hl).mono ?_)).mono ?_
             · rintro x w' ⟨rfl,hb⟩
               exact ⟨Or.inl ⟨by omega,rfl⟩,hb⟩
             · rintro x w' ⟨qa,na,o,k,c,rfl,hT,hb⟩
               exact ⟨qa,na,o,k,c,rfl,fun e => (by cases e),hb⟩
         · refine ⟨0,E.q,N - 1,zrK E N (bzrow N f') m',zrK_uni hE _ _ _,by omega,fun wx hx => ?_,fun wx hx => ?_⟩
           · refine (bch_z (T := TzM E.q (N - 1) (wx.heap.size + 1) (zrK E N (bzrow N f') m')) n1 n2 (by omega) (by omega) (hP wx) (fun wy zo zc hsz hz hl => (zat_told hs (show N = N - 1 + 1 by omega) (by omega) hz hl hy).mono ?_) (fun _ _ _ _ _ _ _ h => ⟨h.1,h.2.laid (by omega) _ _ _⟩)).mono ?_
             · rintro x w' ⟨qa,na,o,k,c,rfl,hT,hb⟩
               exact ⟨qa,na,o,k,c,0,rfl,⟨rfl,hT.mono (by omega)⟩,hb⟩
             · rintro x w' ⟨qv,nv,so,sk,sc,e,rfl,⟨rfl,hT⟩,hb⟩
               exact ⟨qv,nv,so,sk,sc,rfl,hT.told,hb⟩
           · refine (rbch_z (nn := N - 1) (S := 0) (qq := E.q) (K := zrK E N (bzrow N f') m') (P := fun _ _ => True) n1 n2 (by omega) (by omega) (hR wx) (fun wy zo zc hsz hz hl => (g2 wy zo zc hz hl).mono ?_)).mono ?_
             · rintro x w' ⟨ao,ca,rfl,hA,hb⟩
               exact ⟨Or.inr ⟨rfl,ao,_,ca,rfl,fun wv hv => gen_cod hs hG (by omega) (hA.below hv)⟩,hb⟩
             · rintro x w' ⟨qa,na,o,k,c,rfl,hT,hb⟩
               exact ⟨qa,na,o,k,c,rfl,hT.mono hx.size,hb⟩
   · exact CoB.err hc (fun wx hx => bch_e1 hc (fun wy _ => cychk_any hE n wy)) (fun wx hx => rbch_e1 hc (fun wy _ => rcos_err hE hc wy))
 · have hn : ∀ D ∈ fieldsL,(D.q : Int) ≠ q := fun D hD e => hf ⟨D,hD,e⟩
   exact CoB.err (e := 1) (by omega) (fun wx hx => bch_e1 (by omega) (fun wy _ => (cychk_none q n wy hn).mono (by rintro x w' ⟨rfl,rfl⟩; exact ⟨rfl,Below.refl _ _⟩))) (fun wx hx => rbch_e1 (by omega) (fun wy _ => rcos_none q n wy hn))
theorem cyfld_two : ∃ E ∈ fieldsL,E.q = 2 ∧ E.p = 2 := by
 have k : (fieldsL.any fun E => E.q == 2 && E.p == 2) = true := by decide +kernel
 obtain ⟨E,hE,h⟩ := List.any_eq_true.1 k
 simp only [Bool.and_eq_true,beq_iff_eq] at h
 exact ⟨E,hE,h⟩
theorem sq_both (n : Int) (w : World) : CoB 20 21 #[.int .i64 n] w := by
 by_cases h1 : n < 3 ∨ 64 < n
 · exact CoB.err (e := 4) (by omega) (fun wx _ => csq_e1 h1 wx) (fun wx _ => rsq_e1 h1 wx)
 · obtain ⟨N,rfl⟩ : ∃ N : Nat,n = (N : Int) := ⟨n.toNat,by omega⟩
   by_cases h2 : prm N N = false ∨ (N % 8 ≠ 1 ∧ N % 8 ≠ 7)
   · exact CoB.err (e := 3) (by omega) (fun wx _ => csq_e2 (by omega) (by omega) h2 wx) (fun wx _ => rsq_e2 (by omega) (by omega) h2 wx)
   · have hp : prm N N = true := by
       cases h : prm N N with
       | true => rfl
       | false => exact absurd (Or.inl h) h2
     have h8 : N % 8 = 1 ∨ N % 8 = 7 := Classical.byContradiction fun c => h2 (Or.inr ⟨fun e => c (Or.inl e),fun e => c (Or.inr e)⟩)
     obtain ⟨E,hE,eq,ep⟩ := cyfld_two
     have n3 : N % E.p ≠ 0 := by rw [ep]; omega
     have hy : ∀ i,i < N - 1 → sqrow N i < N := fun i _ => Nat.mod_lt _ (by omega)
     have e2 : ((E.q : Nat) : Int) = 2 := by rw [eq]; rfl
     rcases gen_two hE (N := N) (by omega) (by omega) n3 (sqrow N) (N - 1) (by omega) hy with ⟨_,g1,g2⟩ | ⟨hs,G,hG,g1,g2⟩
     · rw [e2] at g1 g2
       refine ⟨4,0,0,fun _ _ => False,fun _ _ _ _ h => h.elim,by omega,fun wx hx => ?_,fun wx hx => ?_⟩
       · refine (csq_z (T := TzE 4) (by omega) (by omega) hp h8 (fun wy zo zc hsz hz hl => (zat_err (e := 4) (by omega) (fun wv hv => g1 wv zo zc (slz_bel hz hl hv).1 (slz_bel hz hl hv).2)).mono ?_) (fun _ _ _ _ _ _ _ h => h)).mono ?_
         · rintro x w' ⟨rfl,hb⟩
           exact ⟨0,0,none,0,0,4,rfl,⟨rfl,rfl,rfl,rfl,rfl,rfl⟩,hb⟩
         · rintro x w' ⟨qv,nv,so,sk,sc,e,rfl,⟨rfl,rfl,rfl,rfl,rfl,rfl⟩,hb⟩
           exact ⟨0,0,none,0,0,rfl,⟨fun e => (by cases e),fun _ => ⟨rfl,rfl,rfl,rfl,rfl⟩⟩,hb⟩
       · refine (rsq_z (nn := 0) (S := 4) (qq := 0) (K := fun _ _ => False) (by omega) (by omega) hp h8 (fun wy zo zc hsz hz hl => (g2 wy zo zc hz hl).mono ?_)).mono ?_
         · rintro x w' ⟨rfl,hb⟩
           exact ⟨Or.inl ⟨by omega,rfl⟩,hb⟩
         · rintro x w' ⟨qa,na,o,k,c,rfl,hT,hb⟩
           exact ⟨qa,na,o,k,c,rfl,fun e => (by cases e),hb⟩
     · have hzt := fun (wy : World) (zo : Option Addr) (zc : Nat) (hz : SlZ zo (N - 1) (fun i => ((sqrow N i : Nat) : Int)) wy) (hl : LtB zo wy.heap.size) => zat_told hs (zc := zc) (show N = N - 1 + 1 by omega) (by omega) hz hl hy
       have hgc := fun (wy : World) (ao : Option Addr) (ca : Nat) (hA : Arg ao ((zrL E.q N (sqrow N) (N - 1)).length + 1) ca (fun k => ((gnr G E (G.xp G.gen ((G.q - 1) / N)) (zrL E.q N (sqrow N) (N - 1)) k : Nat) : Int)) wy) => gen_cod hs hG (show N = N - 1 + 1 by omega) hA
       rw [e2] at hzt hgc g2
       refine ⟨0,2,N - 1,zrK E N (sqrow N) (N - 1),zrK_uni hE _ _ _,by omega,fun wx hx => ?_,fun wx hx => ?_⟩
       · refine (csq_z (T := TzM 2 (N - 1) (wx.heap.size + 1) (zrK E N (sqrow N) (N - 1))) (by omega) (by omega) hp h8 (fun wy zo zc hsz hz hl => (hzt wy zo zc hz hl).mono ?_) (fun _ _ _ _ _ _ _ h => ⟨h.1,h.2.laid (by omega) _ _ _⟩)).mono ?_
         · rintro x w' ⟨qa,na,o,k,c,rfl,hT,hb⟩
           exact ⟨qa,na,o,k,c,0,rfl,⟨rfl,hT.mono (by omega)⟩,hb⟩
         · rintro x w' ⟨qv,nv,so,sk,sc,e,rfl,⟨rfl,hT⟩,hb⟩
           exact ⟨qv,nv,so,sk,sc,rfl,hT.told,hb⟩
       · refine (rsq_z (nn := N - 1) (S := 0) (qq := 2) (K := zrK E N (sqrow N) (N - 1)) (by omega) (by omega) hp h8 (fun wy zo zc hsz hz hl => (g2 wy zo zc hz hl).mono ?_)).mono ?_
         · rintro x w' ⟨ao,ca,rfl,hA,hb⟩
           exact ⟨Or.inr ⟨rfl,ao,_,ca,rfl,fun wv hv => hgc wv ao ca (hA.below hv)⟩,hb⟩
         · rintro x w' ⟨qa,na,o,k,c,rfl,hT,hb⟩
           exact ⟨qa,na,o,k,c,rfl,hT.mono hx.size,hb⟩
end Go.Proofs.YtppggchhkckobaaGreat
