/- Texts of ours, one behind the other: KD1 W13. -/
import Derived.Test.YtcgmllamiaflcaaZS27
import Derived.Test.YtcgmllamiaflcaaZU12
import Derived.Test.YtcgmllamiaflcaaZX20
import Derived.Test.YtcgmllamiaflcaaZZ2
/- The program's reed: quotient, spare. -/
namespace Go.Proofs.Ytcgmllamiaflcaa
open Go.RowKit Go.Sort

/-- A product, divided. -/
theorem quo_exact {D : FD} (hD : D ∈ fieldsL) {N a E : Nat → Nat} {n m k : Nat} (eN : El D N) (bN : Bd n N) (eE : El D E) (bE : Bd m E) (h0 : dgn E m ≠ 0) (ea : El D a) (ba : Bd k a) (h : N = pmul D k a E) : D.quo N n E m = a ∧ D.rst N n E m = pnil := by
  have F := fld hD
  obtain ⟨l, hl⟩ : ∃ l, l = dgn E m - 1 := ⟨_, rfl⟩
  have hb : Bd (l + 1) E := by rw [hl, show dgn E m - 1 + 1 = dgn E m by omega]; exact dgn_bd bE
  have ht : E l ≠ 0 := by rw [hl]; exact dgn_top E m h0
  have hi : D.mul (E l) (D.iv (E l)) = 1 := iv_is hD (eE l) ht
  unfold FD.quo FD.rst
  rw [← hl]
  obtain ⟨n', hn'⟩ : ∃ n', n' = n - l := ⟨_, rfl⟩
  rw [← hn']
  have bN' : Bd (n' + l) N := bN.mono (by omega)
  have i := div_is F (b := E) (l := l) (inv := D.iv (E l)) (n' + k) eN
  have h1 : Bd l (divR D E l (D.iv (E l)) (n' + k) N) := divR_bd F eE hb hi (n' + k) eN (bN'.mono (by omega))
  have e2 : padd D (pmul D (n' + k) (divQ D E l (D.iv (E l)) (n' + k) N) E) (divR D E l (D.iv (E l)) (n' + k) N) = padd D (pmul D (n' + k) a E) pnil := by
    rw [i, padd_nil F (el_mul F _ _ _), pmul_to F E ba (by omega)]; exact h
  have u := div_uniq F hb ht (el_divQ F _ _) ea (el_divR F _ eN) (el_nil F) (divQ_bd _ _) (ba.mono (by omega)) h1 (fun _ _ => rfl) e2
  have hf := div_from F (b := E) (inv := D.iv (E l)) eN bN' (show n' ≤ n' + k by omega)
  exact ⟨by rw [← hf.2]; exact u.1, by rw [← hf.1]; exact u.2⟩

set_option maxHeartbeats 2000000 in
set_option maxRecDepth 100000 in
theorem quotient_any {F T : Nat} {D : FD} (hD : D ∈ fieldsL) {g : Nat → Value} {w : World} (hat : FAt F T D g w) {ao bo : Option Addr} {n m ca cb : Nat} {z y : Nat → Int} (ha : Arg ao n ca z w) (hb : Arg bo m cb y w) (hc : D.chk2 n z m y = 0) (h0 : dgn (zc m y) m ≠ 0) :
    Calls Try.prog 59 #[.pointer (some ⟨F, 0, none⟩), .slice ao n ca, .slice bo m cb] w fun e w' => ∃ v, e = .returned (.tuple #[v, .bool (decide (dgn (D.rst (zc n z) n (zc m y) m) n = 0))]) ∧ OwnP w.heap.size v (dgn (D.quo (zc n z) n (zc m y) m) (n - (dgn (zc m y) m - 1))) (D.quo (zc n z) n (zc m y) m) w' ∧ Below w.heap.size w w' := by
  have HS : Hid (Calls Try.prog 18 #[.pointer (some ⟨F, 0, none⟩)] w fun e w' => e = .returned (.int .i64 D.q) ∧ w' = w) := size_any hat
  have HD : Hid (Calls Try.prog 62 #[.int .i64 D.q, .slice ao n ca, .slice bo m cb] w fun e w' => Below w.heap.size w w' ∧ ∃ v u, e = .returned (.tuple #[v, u, .int .i64 0]) ∧ OwnP w.heap.size v (dgn (D.quo (zc n z) n (zc m y) m) (n - (dgn (zc m y) m - 1))) (D.quo (zc n z) n (zc m y) m) w' ∧ OwnP w.heap.size u (dgn (D.rst (zc n z) n (zc m y) m) n) (D.rst (zc n z) n (zc m y) m) w') := by
    refine (pdiv_any hD ha hb).mono ?_
    rintro e w' ⟨hb', ⟨_, _, v, u, h1, h2, h3⟩ | ⟨_, h1, _⟩ | ⟨h1, _⟩⟩
    · exact ⟨hb', v, u, h1, h2, h3⟩
    · exact absurd h1 h0
    · exact absurd hc h1
  obtain ⟨r, hr⟩ : ∃ r, r = dgn (D.rst (zc n z) n (zc m y) m) n := ⟨_, rfl⟩
  rw [← hr] at HD ⊢
  have hrn : r ≤ n := by rw [hr]; exact dgn_le _ _
  have hn := ha.few
  clear hat ha hb hc h0 hr
  go_enter Try.func59, Try.ntmps59
  go_wp2_with fail
  refine HS.out.mono ?_
  rintro e w' ⟨rfl, hw⟩
  have hw := hw.symm
  subst hw
  go_wp2_with fail
  refine HD.out.mono ?_
  rintro e w1 ⟨hb1, v, u, rfl, hv, hu⟩
  have HV : Hid (Below w.heap.size w w1 ∧ OwnP w.heap.size v (dgn (D.quo (zc n z) n (zc m y) m) (n - (dgn (zc m y) m - 1))) (D.quo (zc n z) n (zc m y) m) w1) := ⟨hb1, hv⟩
  obtain ⟨uo, uc, rfl, _⟩ := hu
  clear hb1 hv
  by_cases h1 : r = 0
  · subst h1
    go_wp2
    go_ret2
    exact ⟨v, rfl, HV.out.2, HV.out.1⟩
  · have h2 : ((r : Int) == 0) = false := by rw [beq_eq_false_iff_ne]; omega
    have h3 : decide ((r : Int) = 0) = false := by rw [decide_eq_false_iff_not]; omega
    have H4 : Hid (decide (r = 0) = false) := by show _ = _; rw [decide_eq_false_iff_not]; exact h1
    clear h1
    go_wp2
    go_ret2
    exact ⟨v, by rw [H4.out]; rfl, HV.out.2, HV.out.1⟩

set_option maxHeartbeats 2000000 in
set_option maxRecDepth 100000 in
theorem spare_any (F : Nat) (k : Int) (xo yo : Option Addr) (n xc m yc : Nat) (hn : n ≤ 1000) (hk : 0 ≤ k) (hk2 : k ≤ 1000) (w : World) :
    Calls Try.prog 56 #[.agg #[.pointer (some ⟨F, 0, none⟩), .int .i64 k, .slice xo n xc, .slice yo m yc]] w fun e w' => e = .returned (.int .i64 ((n : Int) - k)) ∧ Below w.heap.size w w' := by
  go_enter Try.func56, Try.ntmps56
  go_wp2
  go_ret
  exact ⟨by first | rfl | go_num, (Below.refl _ _).alloc (Nat.le_refl _) _⟩
end Go.Proofs.Ytcgmllamiaflcaa

/- A region that draws its order and whose late operations, which wait for all that read, write what others read. No Go text here. -/
namespace Go.Proofs.Ytcgmllamiaflcaa
open Go

/-- Whatever order is picked from here on; S holds behind every operation but the late ones. -/
def wpAnyL (P : Program) (ops : Array Oper) (Q : Exit → Act → World → Prop) (S : World → Prop) (L : List Nat) : Nat → Array Bool → Act → World → Prop
  | 0, s, a, w => Region.ready .any ops s = [] ∧ Q .normal a w
  | f + 1, s, a, w => (Region.ready .any ops s = [] → Q .normal a w) ∧ ∀ i ∈ Region.ready .any ops s, wpOp P ops Q i (fun a' w' => (i ∉ L → S w') ∧ wpAnyL P ops Q S L f (s.setIfInBounds i true) a' w') a w
theorem wpAny_of_L {P : Program} {ops : Array Oper} {Q : Exit → Act → World → Prop} {S : World → Prop} {L : List Nat} : ∀ (f : Nat) (s : Array Bool) (a : Act) (w : World), wpAnyL P ops Q S L f s a w → wpAny P .any ops Q f s a w
  | 0, _, _, _, h => h
  | f + 1, _, _, _, h => ⟨h.1, fun i hi => wpOp_mono (fun a' w' h' => wpAny_of_L f _ a' w' h'.2) (h.2 i hi)⟩
theorem done_at {s : Array Bool} {k : Nat} (h : s.getD k false = true) : s[k]? = some true := by
  rcases Nat.lt_or_ge k s.size with h1 | h1
  · rw [Array.getElem?_eq_getElem h1]
    simp [h1] at h
    rw [h]
  · simp [Array.getElem?_eq_none h1] at h
/-- Is all done that what is done has waited for? -/
def Closed (ops : Array Oper) (s : Array Bool) : Prop := ∀ m o, ops[m]? = some o → s.getD m true = true → ∀ e ∈ o.after, Region.binds .any e = true → s[e.on]? = some true
def closedB (ops : Array Oper) (s : Array Bool) : Bool := (List.range ops.size).all fun m => !(s.getD m true) || ((ops[m]?).map fun o => o.after.all fun e => !(Region.binds .any e) || (s[e.on]? == some true)).getD true
theorem closed_of {ops : Array Oper} {s : Array Bool} (h : closedB ops s = true) : Closed ops s := by
  intro m o ho hm e he hb
  have hlt : m < ops.size := by
    rcases Nat.lt_or_ge m ops.size with h1 | h1
    · exact h1
    · rw [Array.getElem?_eq_none h1] at ho; cases ho
  have h1 := List.all_eq_true.1 h m (List.mem_range.2 hlt)
  rw [hm, ho] at h1
  have h2 : (o.after.all fun e => !(Region.binds .any e) || (s[e.on]? == some true)) = true := by simpa using h1
  have h3 := Array.all_eq_true'.1 h2 e he
  rw [hb] at h3
  simpa using h3
theorem closed_step {ops : Array Oper} {s : Array Bool} (h : Closed ops s) {j : Nat} (hj : j ∈ Region.ready .any ops s) : Closed ops (s.setIfInBounds j true) := by
  intro m o ho hm e he hb
  obtain ⟨hjun, oj, hoj, hall⟩ := mem_ready.1 hj
  have key : s[e.on]? = some true := by
    by_cases e1 : j = m
    · subst e1
      rw [ho] at hoj
      cases hoj
      exact done_at (hall e he hb)
    · rw [getD_set_ne true e1] at hm
      exact h m o ho hm e he hb
  rw [Array.getElem?_setIfInBounds]
  split
  · rename_i e2
    split
    · rfl
    · rename_i h2
      rw [← e2] at key
      rw [Array.getElem?_eq_none (by omega)] at key; cases key
  · exact key
/-- Does number j wait for number i, or for one that does? -/
def waitsT (ops : Array Oper) : Nat → Nat → Nat → Bool
  | 0, j, i => waitsB ops j i
  | n + 1, j, i => waitsB ops j i || (List.range ops.size).any fun m => waitsB ops j m && waitsT ops n m i
theorem waits_done {ops : Array Oper} {s : Array Bool} {j i : Nat} {o : Oper} (ho : ops[j]? = some o) (hall : ∀ e ∈ o.after, Region.binds .any e = true → s[e.on]? = some true) (h : waitsB ops j i = true) : s[i]? = some true := by
  unfold waitsB at h
  rw [ho] at h
  obtain ⟨e, he, hb⟩ := Array.any_eq_true'.1 (show (o.after.any fun e => Region.binds .any e && e.on == i) = true from h)
  rw [Bool.and_eq_true, beq_iff_eq] at hb
  rw [← hb.2]
  exact hall e he hb.1
theorem waitsT_done {ops : Array Oper} {s : Array Bool} (hc : Closed ops s) {i : Nat} : ∀ (n j : Nat) (o : Oper), ops[j]? = some o → (∀ e ∈ o.after, Region.binds .any e = true → s[e.on]? = some true) → waitsT ops n j i = true → s[i]? = some true
  | 0, j, o, ho, hall, h => waits_done ho hall h
  | n + 1, j, o, ho, hall, h => by
    have h : (waitsB ops j i || (List.range ops.size).any fun m => waitsB ops j m && waitsT ops n m i) = true := h
    rw [Bool.or_eq_true] at h
    rcases h with h | h
    · exact waits_done ho hall h
    · obtain ⟨m, hm, hw⟩ := List.any_eq_true.1 h
      rw [Bool.and_eq_true] at hw
      have hd := waits_done ho hall hw.1
      have hlt := List.mem_range.1 hm
      obtain ⟨om, hom⟩ : ∃ om, ops[m]? = some om := ⟨ops[m], Array.getElem?_eq_getElem hlt⟩
      refine waitsT_done hc n m om hom (hc m om hom ?_) hw.2
      simp [Array.getD_eq_getD_getElem?, hd]
/-- Do all late ones wait for number i? -/
def lateB (ops : Array Oper) (L : List Nat) (i : Nat) : Bool := L.all fun j => waitsT ops 3 j i
theorem late_not {ops : Array Oper} {L : List Nat} {i j : Nat} {s : Array Bool} (hc : Closed ops s) (h : lateB ops L i = true) (hi : s.getD i true = false) (hj : j ∈ Region.ready .any ops s) : j ∉ L := by
  intro hL
  obtain ⟨_, o, ho, hall⟩ := mem_ready.1 hj
  have h1 := waitsT_done hc 3 j o ho (fun e he hb => done_at (hall e he hb)) (List.all_eq_true.1 h j hL)
  simp [Array.getD_eq_getD_getElem?, h1] at hi
theorem wpAnyL_first {P : Program} {ops : Array Oper} {Q : Exit → Act → World → Prop} {S : World → Prop} {L : List Nat} {i : Nat} {oi : Oper} {v : Value} (hi : ops[i]? = some oi) (hsel : ∀ (j : Nat) (o : Oper) cs b, ops[j]? = some o → o.op ≠ .select cs b)
    (hQ : ∀ c a w, Q (.panic c) (a.put oi.dst v) w → Q (.panic c) a w) (hL : lateB ops L i = true) :
    ∀ (f : Nat) (s : Array Bool) (a : Act) (w : World),
      (∀ j oj, ops[j]? = some oj → j ≠ i → s.getD j true = false → (∀ e ∈ oj.after, Region.binds .any e = true → e.on ≠ i) → oi.apart ops oj = true) →
      i ∈ Region.ready .any ops s → Closed ops s → YieldsIf P ops S oi v a → S w →
      wpAnyL P ops Q S L f (s.setIfInBounds i true) (a.put oi.dst v) w → wpAnyL P ops Q S L (f + 1) s a w := by
  intro f
  induction f with
  | zero =>
    intro s a w _ hr _ hy hS H
    refine ⟨fun h => (by rw [h] at hr; cases hr), fun j hj => ?_⟩
    by_cases hji : j = i
    · subst hji; exact hy.wpOp hi hS ⟨fun _ => hS, H⟩
    · have := ready_mono hj hji
      rw [H.1] at this
      cases this
  | succ f ih =>
    intro s a w hfree hr hcl hy hS H
    refine ⟨fun h => (by rw [h] at hr; cases hr), fun j hj => ?_⟩
    by_cases hji : j = i
    · subst hji; exact hy.wpOp hi hS ⟨fun _ => hS, H⟩
    · have h1 := H.2 j (ready_mono hj hji)
      have hjL : j ∉ L := late_not hcl hL (mem_ready.1 hr).1 hj
      obtain ⟨hjun, oj, hoj, hall⟩ := mem_ready.1 hj
      have hnot : ∀ e ∈ oj.after, Region.binds .any e = true → e.on ≠ i := fun e he hb heq => by
        have h1 := hall e he hb
        have h0 := (mem_ready.1 hr).1
        rw [heq] at h1
        rcases Nat.lt_or_ge i s.size with h' | h'
        · simp [h'] at h0 h1; rw [h0] at h1; cases h1
        · simp [Array.getElem?_eq_none h'] at h1
      have h2 := wpOp_putIf hoj (hfree j oj hoj hji hjun hnot) (fun cs b => hsel i oi cs b hi) (fun cs b => hsel j oj cs b hoj) hQ hy h1
      have hfree' : ∀ k ok, ops[k]? = some ok → k ≠ i → (s.setIfInBounds j true).getD k true = false →
          (∀ e ∈ ok.after, Region.binds .any e = true → e.on ≠ i) → oi.apart ops ok = true := fun k ok hk hki hun hno => by
        refine hfree k ok hk hki ?_ hno
        by_cases hjk : j = k
        · subst hjk; exact hjun
        · rw [getD_set_ne true hjk] at hun; exact hun
      refine wpOp_mono (fun a' w' h3 => ⟨fun _ => h3.2.1 hjL, ih (s.setIfInBounds j true) a' w' hfree' (ready_mono hr (Ne.symm hji)) (closed_step hcl hj) h3.1 (h3.2.1 hjL) ?_⟩) h2
      rw [Array.setIfInBounds_comm _ _ hji]
      exact h3.2.2
/-- Take number i first. -/
theorem wpAnyL_take {P : Program} {ops : Array Oper} {Q : Exit → Act → World → Prop} {S : World → Prop} {L : List Nat} {i : Nat} {oi : Oper} {v : Value} {f : Nat} {s : Array Bool} {a : Act} {w : World} (hi : ops[i]? = some oi)
    (hs : Region.noSelect ops = true) (hf : Region.free .any ops s i = true) (hr : (Region.ready .any ops s).contains i = true) (hcl : closedB ops s = true) (hL : lateB ops L i = true)
    (hQ : ∀ c a w, Q (.panic c) (a.put oi.dst v) w → Q (.panic c) a w) (hS : S w) (hy : YieldsIf P ops S oi v a)
    (h : wpAnyL P ops Q S L f (s.setIfInBounds i true) (a.put oi.dst v) w) : wpAnyL P ops Q S L (f + 1) s a w :=
  wpAnyL_first hi (Region.noSelect_spec hs) hQ hL f s a w (Region.free_spec hi hf) (by simpa using hr) (closed_of hcl) hy hS h
/-- Number i is the only one that may come now. -/
theorem wpAnyL_one {P : Program} {ops : Array Oper} {Q : Exit → Act → World → Prop} {S : World → Prop} {L : List Nat} {i : Nat} {o : Oper} {f : Nat} {s : Array Bool} {a : Act} {w : World} (hr : Region.ready .any ops s = [i]) (ho : ops[i]? = some o)
    (h : ∀ K : Act → World → Prop, (∀ a' w', (i ∉ L → S w') → wpAnyL P ops Q S L f (s.setIfInBounds i true) a' w' → K a' w') → if Region.wanted o (yielded ops a.tmps) = true then Oper.wp P o a w K Q else K (a.put o.dst undef) w) : wpAnyL P ops Q S L (f + 1) s a w := by
  refine ⟨fun e => (by rw [hr] at e; cases e), fun j hj => ?_⟩
  rw [hr, List.mem_singleton] at hj
  subst hj
  have h1 := h (fun a' w' => (j ∉ L → S w') ∧ wpAnyL P ops Q S L f (s.setIfInBounds j true) a' w') (fun a' w' h1 h2 => ⟨h1, h2⟩)
  unfold wpOp
  simp only [ho]
  split
  · rename_i hw
    rw [if_pos hw] at h1
    exact Or.inl h1
  · rename_i hw
    rw [if_neg hw] at h1
    exact h1
theorem wpAnyL_done {P : Program} {ops : Array Oper} {Q : Exit → Act → World → Prop} {S : World → Prop} {L : List Nat} {s : Array Bool} {a : Act} {w : World} (hr : Region.ready .any ops s = []) (h : Q .normal a w) : wpAnyL P ops Q S L 0 s a w := ⟨hr, h⟩
theorem wp_region_L {P : Program} {ops : Array Oper} {Q : Exit → Act → World → Prop} {S : World → Prop} (L : List Nat) {id : Nat} {a : Act} {w : World} (hm : P.follows .mixedOrders = true)
    (h : wpAnyL P ops Q S L ops.size (Array.replicate ops.size false) a w.drew) : (Code.region id ops true).wp P Q a w :=
  wp_region_any hm (wpAny_of_L _ _ _ _ h)
/-- One of two may come now. -/
theorem wpAnyL_two {P : Program} {ops : Array Oper} {Q : Exit → Act → World → Prop} {S : World → Prop} {L : List Nat} {i k : Nat} {o o' : Oper} {f : Nat} {s : Array Bool} {a : Act} {w : World} (hr : Region.ready .any ops s = [i, k]) (ho : ops[i]? = some o) (ho' : ops[k]? = some o')
    (h : ∀ K : Act → World → Prop, (∀ a' w', (i ∉ L → S w') → wpAnyL P ops Q S L f (s.setIfInBounds i true) a' w' → K a' w') → if Region.wanted o (yielded ops a.tmps) = true then Oper.wp P o a w K Q else K (a.put o.dst undef) w)
    (h' : ∀ K : Act → World → Prop, (∀ a' w', (k ∉ L → S w') → wpAnyL P ops Q S L f (s.setIfInBounds k true) a' w' → K a' w') → if Region.wanted o' (yielded ops a.tmps) = true then Oper.wp P o' a w K Q else K (a.put o'.dst undef) w) : wpAnyL P ops Q S L (f + 1) s a w := by
  refine ⟨fun e => (by rw [hr] at e; cases e), fun j hj => ?_⟩
  rw [hr, List.mem_cons, List.mem_singleton] at hj
  rcases hj with hj | hj
  · subst hj
    have h1 := h (fun a' w' => (j ∉ L → S w') ∧ wpAnyL P ops Q S L f (s.setIfInBounds j true) a' w') (fun a' w' h1 h2 => ⟨h1, h2⟩)
    unfold wpOp
    simp only [ho]
    split
    · rename_i hw
      rw [if_pos hw] at h1
      exact Or.inl h1
    · rename_i hw
      rw [if_neg hw] at h1
      exact h1
  · subst hj
    have h1 := h' (fun a' w' => (j ∉ L → S w') ∧ wpAnyL P ops Q S L f (s.setIfInBounds j true) a' w') (fun a' w' h1 h2 => ⟨h1, h2⟩)
    unfold wpOp
    simp only [ho']
    split
    · rename_i hw
      rw [if_pos hw] at h1
      exact Or.inl h1
    · rename_i hw
      rw [if_neg hw] at h1
      exact h1
end Go.Proofs.Ytcgmllamiaflcaa
