/- Texts of ours, one behind the other: T2 T4. -/
import Derived.Test.YthmjdcajaoilgabZT1
/- The reference's matrices: rows as they are handed in; a row's first number that is not 0. -/
namespace Go.Proofs.Ythmjdcajaoilgab
open Go.RowKit Go.Sort

theorem cell_lt {w : World} {a : Addr} {v : Value} (h : w.cell? a = some v) : a.block < w.heap.size := by
  rcases Nat.lt_or_ge a.block w.heap.size with e | e
  · exact e
  · exfalso
    have h1 : w.heap[a.block]? = none := Array.getElem?_eq_none e
    simp [World.cell?, h1] at h
/-- The slice u reads as n + 1 elements c. -/
def Rwv (u : Value) (n : Nat) (c : Nat → Nat) (w : World) : Prop := ∃ A ca, u = .slice A (n + 1) ca ∧ Sl A (n + 1) c w ∧ LtB A w.heap.size ∧ (A = none → ca = 0) ∧ n + 1 ≤ ca ∧ ca ≤ 9223372036854775807
theorem Rwv.below {u : Value} {n : Nat} {c : Nat → Nat} {w w' : World} (h : Rwv u n c w) (hb : Below w.heap.size w w') : Rwv u n c w' := by
  obtain ⟨A, ca, h1, h2, h3, h4, h5, h6⟩ := h
  exact ⟨A, ca, h1, h2.below hb h3, h3.mono hb.size, h4, h5, h6⟩
theorem Elm.rwv {v : Value} {n : Nat} {c : Nat → Nat} {w : World} (h : Elm v (n, c) w) : Rwv v n c w := by
  obtain ⟨ao, cap, e, h1, h2, hs, hl, hn⟩ := h.sl
  exact ⟨ao, cap, e, hs, hl, hn, h1, h2⟩
/-- The slice of slices that begins at ao: m rows M of n + 1 elements. -/
def MatR (ao : Option Addr) (m n : Nat) (M : Nat → Nat → Nat) (w : World) : Prop := ∀ i, i < m → ∃ b off u, ao = some ⟨b, off, none⟩ ∧ w.cell? ⟨b, off + i, none⟩ = some u ∧ Rwv u n (M i) w
theorem MatR.below {ao : Option Addr} {m n : Nat} {M : Nat → Nat → Nat} {w w' : World} (h : MatR ao m n M w) (hb : Below w.heap.size w w') : MatR ao m n M w' := fun i hi => by
  obtain ⟨b, off, u, e, hc, hr⟩ := h i hi
  exact ⟨b, off, u, e, ((bcell hb).1 b (off + i) (cell_lt hc)).trans hc, hr.below hb⟩
/-- k rows R of n + 1 numbers, as a list. -/
def rl (k n : Nat) (R : Nat → Nat → Nat) : List (Nat × (Nat → Nat)) := (List.range k).map fun i => (n, R i)
theorem rl_len (k n : Nat) (R : Nat → Nat → Nat) : (rl k n R).length = k := by simp [rl]
theorem rl_get (k n : Nat) (R : Nat → Nat → Nat) (j : Nat) (hj : j < k) : (rl k n R)[j]? = some (n, R j) := by
  unfold rl
  rw [List.getElem?_map, List.getElem?_range hj]; rfl
theorem rl_congr {k n : Nat} {R R' : Nat → Nat → Nat} (h : ∀ i, i < k → R i = R' i) : rl k n R = rl k n R' := by
  unfold rl
  exact List.map_congr_left (fun j hj => by rw [h j (List.mem_range.1 hj)])
/-- Rows of a list of lists of the call's own, with the outer list where it lies. -/
structure RwsO (base : Nat) (ro : Option Addr) (k rc n : Nat) (R : Nat → Nat → Nat) (vs : Nat → Value) (w : World) : Prop where
  own : OwnV base (.slice ro k rc) (vl k vs) w
  row : ∀ j, j < k → Elm (vs j) (n, R j) w
  nil : ro = none → rc = 0
theorem LLs.rws {base : Nat} {v : Value} {k n : Nat} {R : Nat → Nat → Nat} {w : World} (h : LLs base v (rl k n R) w) : ∃ ro rc vs, v = .slice ro k rc ∧ RwsO base ro k rc n R vs w := by
  obtain ⟨l, h1, h2⟩ := h
  obtain ⟨ro, rc, hv, hn, _, _, _⟩ := h1.open
  have hl : l.length = k := by rw [h2.1, rl_len]
  rw [hl] at hv
  refine ⟨ro, rc, fun j => l.getD j undef, hv, ?_, fun j hj => ?_, hn⟩
  · have e : vl k (fun j => l.getD j undef) = l := by
      apply List.ext_getElem (by rw [vl_len, hl])
      intro i hi1 hi2
      rw [vl_len] at hi1
      have h3 := vl_get k (fun j => l.getD j undef) i hi1
      rw [List.getElem?_eq_getElem (by rw [vl_len]; exact hi1)] at h3
      have h4 := Option.some.inj h3
      rw [h4, List.getD_eq_getElem?_getD, List.getElem?_eq_getElem hi2]; rfl
    rw [e, ← hv]; exact h1
  · have hj' : j < l.length := by omega
    refine h2.2 j _ _ ?_ (rl_get k n R j hj)
    rw [List.getD_eq_getElem?_getD, List.getElem?_eq_getElem hj']; rfl
theorem RwsO.lls {base : Nat} {ro : Option Addr} {k rc n : Nat} {R : Nat → Nat → Nat} {vs : Nat → Value} {w : World} (h : RwsO base ro k rc n R vs w) : LLs base (.slice ro k rc) (rl k n R) w := by
  refine ⟨vl k vs, h.own, by rw [vl_len, rl_len], fun j v p hv hp => ?_⟩
  have hj : j < k := by have := (List.getElem?_eq_some_iff.1 hv).1; rwa [vl_len] at this
  rw [vl_get k vs j hj] at hv
  rw [rl_get k n R j hj] at hp
  cases hv; cases hp
  exact h.row j hj
theorem RwsO.below {base : Nat} {ro : Option Addr} {k rc n : Nat} {R : Nat → Nat → Nat} {vs : Nat → Value} {w w' : World} (h : RwsO base ro k rc n R vs w) (hb : Below w.heap.size w w') : RwsO base ro k rc n R vs w' :=
  ⟨h.own.below hb (Nat.le_refl _), fun j hj => (h.row j hj).below hb (Nat.le_refl _), h.nil⟩
/-- The cell of row j. -/
theorem RwsO.cell {base : Nat} {ro : Option Addr} {k rc n : Nat} {R : Nat → Nat → Nat} {vs : Nat → Value} {w : World} (h : RwsO base ro k rc n R vs w) (j : Nat) (hj : j < k) : ∃ g, ro = some ⟨g, 0, none⟩ ∧ w.cell? ⟨g, j, none⟩ = some (vs j) ∧ w.frozen? ⟨g, j, none⟩ = false ∧ base ≤ g ∧ g < w.heap.size := by
  obtain ⟨ro', rc', e, _, hlt, hge, hc⟩ := h.own.open
  rw [vl_len] at e
  cases e
  obtain ⟨g, e, h1, h2⟩ := hc j (vs j) (vl_get k vs j hj)
  exact ⟨g, e, h1, h2, hge _ e, hlt _ e⟩
theorem RwsO.sl {base : Nat} {ro : Option Addr} {k rc n : Nat} {R : Nat → Nat → Nat} {vs : Nat → Value} {w : World} (h : RwsO base ro k rc n R vs w) : SlV ro k vs w := fun j hj => by
  obtain ⟨g, e, h1, _⟩ := h.cell j hj
  exact ⟨g, 0, e, by rw [Nat.zero_add]; exact h1⟩
/-- Row j is another one now. -/
theorem RwsO.store {base : Nat} {ro : Option Addr} {k rc n : Nat} {R : Nat → Nat → Nat} {vs : Nat → Value} {w : World} (h : RwsO base ro k rc n R vs w) {g j : Nat} (hg : ro = some ⟨g, 0, none⟩) {u : Value} {c : Nat → Nat} (hu : Elm u (n, c) w) :
    RwsO base ro k rc n (fun i => if i = j then c else R i) (fun i => if i = j then u else vs i) (w.setCell ⟨g, j, none⟩ u) := by
  have hown := h.own
  have hap : ∀ {v : Value} {p : Nat × (Nat → Nat)}, Elm v p w → Elm v p (w.setCell ⟨g, j, none⟩ u) := by
    rintro v p ⟨g', cap, e, h1, h2, hr⟩
    refine ⟨g', cap, e, h1, h2, hr.other (Below.heap_setCell w _ u g' ?_)⟩
    intro e'
    have hne := hr.apart hown
    rw [hg] at hne
    exact hne (by rw [e']; rfl)
  refine ⟨?_, fun i hi => ?_, h.nil⟩
  · rcases hown.2 with ⟨h1, _⟩ | ⟨g', cap, cur, hv, hb, hh, hle, hcm, hsz, htake⟩
    · rw [hg] at h1; cases h1
    · rw [hg, vl_len] at hv
      cases hv
      have hlt := lt_of_block hh
      have h' : w.heap[g] = .cells cur 22 (0, 0) := by simpa [Array.getElem?_eq_getElem hlt] using hh
      refine ⟨by rw [vl_len]; omega, Or.inr ⟨g, rc, cur.setIfInBounds j u, by rw [hg, vl_len], hb, ?_, by rw [vl_len]; rw [vl_len] at hle; exact hle, hcm, by rw [Array.size_setIfInBounds]; exact hsz, ?_⟩⟩
      · show (w.heap.modify g _)[g]? = _
        rw [Array.getElem?_eq_getElem (by simpa using hlt), Array.getElem_modify_self, h']
        rfl
      · rw [vl_len] at htake ⊢
        apply List.ext_getElem?
        intro i
        have h3 : (cur.toList.take (k * 1))[i]? = (vl k vs)[i]? := by rw [htake]
        rw [List.getElem?_take] at h3 ⊢
        by_cases hi : i < k * 1
        · rw [if_pos hi] at h3 ⊢
          have hik : i < k := by omega
          rw [vl_get k vs i hik] at h3
          rw [vl_get k _ i hik, Array.getElem?_toList, Array.getElem?_setIfInBounds]
          rw [Array.getElem?_toList] at h3
          by_cases e : j = i
          · rw [if_pos e, if_pos (by have := (Array.getElem?_eq_some_iff.1 h3).1; omega), if_pos e.symm]
          · rw [if_neg e, if_neg (fun x => e x.symm)]; exact h3
        · rw [if_neg hi, List.getElem?_eq_none (by rw [vl_len]; omega)]
  · show Elm (if i = j then u else vs i) (n, if i = j then c else R i) _
    by_cases e : i = j
    · rw [if_pos e, if_pos e]; exact hap hu
    · rw [if_neg e, if_neg e]; exact hap (h.row i hi)
/-- A list of numbers is no list of lists. -/
theorem OwnI.apart {base base' : Nat} {u v : Value} {l : List Int} {l' : List Value} {w : World} (h : OwnI base u l w) (h' : OwnV base' v l' w) : u.ownBlock = none ∨ u.ownBlock ≠ v.ownBlock := by
  rcases h.2 with ⟨h1, _⟩ | ⟨g, cap, cur, hv, _, hh, _⟩
  · left; rw [h1]; rfl
  · right
    rcases h'.2 with ⟨h2, _⟩ | ⟨g', cap', cur', hv', _, hh', _⟩
    · rw [hv, h2]; intro e; cases e
    · rw [hv, hv']
      intro e
      have e : some g = some g' := e
      cases e
      rw [hh] at hh'
      simp at hh'
theorem Elm.setV {base g j : Nat} {v' u : Value} {l : List Value} {v : Value} {p : Nat × (Nat → Nat)} {w : World} (h : Elm v p w) (ho : OwnV base v' l w) (hg : v'.ownBlock = some g) : Elm v p (w.setCell ⟨g, j, none⟩ u) := by
  obtain ⟨g', cap, e, h1, h2, hr⟩ := h
  refine ⟨g', cap, e, h1, h2, hr.other (Below.heap_setCell w _ u g' ?_)⟩
  intro e'
  exact hr.apart ho (by rw [hg, e'])
theorem OwnI.setV {base base' g j : Nat} {v v' u : Value} {l : List Int} {l' : List Value} {w : World} (h : OwnI base v l w) (ho : OwnV base' v' l' w) (hg : v'.ownBlock = some g) : OwnI base v l (w.setCell ⟨g, j, none⟩ u) :=
  h.kept (grown_set (grown_refl w (some g)) j u) (by rw [← hg]; exact h.apart ho)
/-- A number of a row of the call's own is another one now. -/
theorem Elm.store {g n cap j x : Nat} {c d : Nat → Nat} {w : World} (h : Elm (.slice (some ⟨g, 0, none⟩) (n + 1) cap) (n, c) w) (hd : ∀ i, i < n + 1 → d i = if i = j then x else c i) : Elm (.slice (some ⟨g, 0, none⟩) (n + 1) cap) (n, d) (w.setCell ⟨g, j, none⟩ (.int .i64 (x : Nat))) := by
  obtain ⟨g', cap', e, h1, h2, hr⟩ := h
  cases e
  exact ⟨g, cap, rfl, h1, h2, hr.store j x hd⟩
theorem Elm.row {g n cap : Nat} {c : Nat → Nat} {w : World} (h : Elm (.slice (some ⟨g, 0, none⟩) (n + 1) cap) (n, c) w) : Row g (n + 1) c w := by
  obtain ⟨g', cap', e, h1, h2, hr⟩ := h
  cases e
  exact hr
theorem Elm.congr {v : Value} {n : Nat} {c d : Nat → Nat} {w : World} (h : Elm v (n, c) w) (e : ∀ i, i < n + 1 → c i = d i) : Elm v (n, d) w := by
  obtain ⟨g', cap', e', h1, h2, hr⟩ := h
  exact ⟨g', cap', e', h1, h2, hr.congr e⟩
theorem RwsO.congr {base : Nat} {ro : Option Addr} {k rc n : Nat} {R R' : Nat → Nat → Nat} {vs : Nat → Value} {w : World} (h : RwsO base ro k rc n R vs w) (e : ∀ i, i < k → R i = R' i) : RwsO base ro k rc n R' vs w := ⟨h.own, fun j hj => by rw [← e j hj]; exact h.row j hj, h.nil⟩
theorem vl_ins (k t : Nat) (ht : t ≤ k) (v : Value) (vs : Nat → Value) : vl (k + 1) (ins t v vs) = vl t vs ++ vl 1 (fun _ => v) ++ vl (k - t) (fun j => vs (t + j)) := by
  apply List.ext_getElem?
  intro i
  by_cases hi : i < k + 1
  · rw [vl_get _ _ i hi]
    rcases Nat.lt_trichotomy i t with e | e | e
    · rw [ins_lt e, List.append_assoc, List.getElem?_append_left (by rw [vl_len]; exact e), vl_get _ _ i e]
    · rw [e, ins_at, List.append_assoc, List.getElem?_append_right (by rw [vl_len]; omega), vl_len, Nat.sub_self, List.getElem?_append_left (by rw [vl_len]; omega), vl_get _ _ 0 (by omega)]
    · rw [ins_gt e, List.getElem?_append_right (by rw [List.length_append, vl_len, vl_len]; omega), List.length_append, vl_len, vl_len, vl_get _ _ _ (by omega), show t + (i - (t + 1)) = i - 1 from by omega]
  · rw [List.getElem?_eq_none (by rw [vl_len]; omega), List.getElem?_eq_none (by rw [List.length_append, List.length_append, vl_len, vl_len, vl_len]; omega)]
theorem zl_ins (k t : Nat) (ht : t ≤ k) (v : Int) (z : Nat → Int) : zl (k + 1) (ins t v z) = zl t z ++ zl 1 (fun _ => v) ++ zl (k - t) (fun j => z (t + j)) := by
  apply List.ext_getElem?
  intro i
  by_cases hi : i < k + 1
  · rw [zl_get _ _ i hi]
    rcases Nat.lt_trichotomy i t with e | e | e
    · rw [ins_lt e, List.append_assoc, List.getElem?_append_left (by rw [zl_len]; exact e), zl_get _ _ i e]
    · rw [e, ins_at, List.append_assoc, List.getElem?_append_right (by rw [zl_len]; omega), zl_len, Nat.sub_self, List.getElem?_append_left (by rw [zl_len]; omega), zl_get _ _ 0 (by omega)]
    · rw [ins_gt e, List.getElem?_append_right (by rw [List.length_append, zl_len, zl_len]; omega), List.length_append, zl_len, zl_len, zl_get _ _ _ (by omega), show t + (i - (t + 1)) = i - 1 from by omega]
  · rw [List.getElem?_eq_none (by rw [zl_len]; omega), List.getElem?_eq_none (by rw [List.length_append, List.length_append, zl_len, zl_len, zl_len]; omega)]
theorem ins_cast (t a : Nat) (p : Nat → Nat) : (fun j => ((ins t a p j : Nat) : Int)) = ins t (a : Int) (fun j => ((p j : Nat) : Int)) := by
  funext j
  unfold ins
  split
  · rfl
  · split <;> rfl
end Go.Proofs.Ythmjdcajaoilgab

/- The reference's matrices: products (Product). -/
namespace Go.Proofs.Ythmjdcajaoilgab
open Go.RowKit Go.Sort

/-- A row times a matrix: the first k numbers of the row. -/
def prodR (D : FD) (x : Nat → Nat) (B : Nat → Nat → Nat) : Nat → Nat → Nat
  | 0 => pnil
  | k + 1 => padd D (prodR D x B k) (pscale D (x k) (B k))
theorem prodR_el {D : FD} (F : Fld D) (x : Nat → Nat) (B : Nat → Nat → Nat) : ∀ k, El D (prodR D x B k)
  | 0 => el_nil F
  | k + 1 => el_add F (prodR_el F x B k) (el_scale F _ _)
theorem prodR_bd {D : FD} (F : Fld D) (x : Nat → Nat) {B : Nat → Nat → Nat} {n : Nat} : ∀ k, (∀ i, i < k → Bd n (B i)) → Bd n (prodR D x B k)
  | 0, _ => fun _ _ => rfl
  | k + 1, h => fun c hc => by
    show D.ad (prodR D x B k c) (D.mul (x k) (B k c)) = 0
    rw [prodR_bd F x k (fun i hi => h i (by omega)) c hc, h k (by omega) c hc, mul0 F, ad_zero F (zero_lt' F)]

theorem rl_succ (k n : Nat) (R : Nat → Nat → Nat) : rl (k + 1) n R = rl k n R ++ [(n, R k)] := by
  unfold rl
  rw [List.range_succ, List.map_append]; rfl

set_option maxHeartbeats 8000000 in
set_option maxRecDepth 100000 in
theorem rproduct_any {D : FD} (hD : D ∈ fieldsL) (gen gm cm : Nat) {ao bo : Option Addr} {m l n ca cb : Nat} {A B : Nat → Nat → Nat} {w : World} (hm : m ≤ 1000) (hl : l ≤ 1000) (hn : n ≤ 1000) (hA : ∀ i, i < m → El D (A i)) (hB : ∀ i, i < l + 1 → El D (B i)) (hMA : MatR ao m l A w) (hMB : MatR bo (l + 1) n B w) (hM : ModAt D (.slice (some ⟨gm, 0, none⟩) (D.m + 1) cm) D.md w) :
    Calls Try.prog 44 #[.agg #[.int .i64 D.q, .int .i64 D.p, .int .i64 D.m, .int .i64 gen, .slice (some ⟨gm, 0, none⟩) (D.m + 1) cm], .slice ao m ca, .slice bo (l + 1) cb] w fun e w' => ∃ v, e = .returned v ∧ LLs w.heap.size v (rl m n fun i => prodR D (A i) B (l + 1)) w' ∧ Below w.heap.size w w' := by
  have hbl : Below w.heap.size w (w.alloc (.cells #[.int .i64 D.q, .int .i64 D.p, .int .i64 D.m, .int .i64 gen, .slice (some ⟨gm, 0, none⟩) (D.m + 1) cm] 65)) := (Below.refl _ _).alloc (Nat.le_refl _) _
  have HF : Hid (D ∈ fieldsL ∧ (∀ i, i < m → El D (A i)) ∧ (∀ i, i < l + 1 → El D (B i)) ∧ MatR ao m l A w ∧ MatR bo (l + 1) n B w ∧ ModAt D (.slice (some ⟨gm, 0, none⟩) (D.m + 1) cm) D.md w) := ⟨hD, hA, hB, hMA, hMB, hM⟩
  have HB0 : Hid (Box w.heap.size D gen (.slice (some ⟨gm, 0, none⟩) (D.m + 1) cm) (w.alloc (.cells #[.int .i64 D.q, .int .i64 D.p, .int .i64 D.m, .int .i64 gen, .slice (some ⟨gm, 0, none⟩) (D.m + 1) cm] 65)) ∧ Below w.heap.size w (w.alloc (.cells #[.int .i64 D.q, .int .i64 D.p, .int .i64 D.m, .int .i64 gen, .slice (some ⟨gm, 0, none⟩) (D.m + 1) cm] 65))) := ⟨box_new D gen _ w, hbl⟩
  clear hD hA hB hMA hMB hM hbl
  go_enter Try.func44, Try.ntmps44
  go_wp2
  go_loopw [7, 8] (fun vl vi wr => ∃ i : Nat, i ≤ m ∧ vi = .int .i64 i ∧ Hid (LLs (w.heap.size + 1) vl (rl i n fun i => prodR D (A i) B (l + 1)) wr ∧ Below w.heap.size w wr ∧ Box w.heap.size D gen (.slice (some ⟨gm, 0, none⟩) (D.m + 1) cm) wr) ∧ w.heap.size < wr.heap.size) (fun _ vi _ => m - (intOf vi).toNat)
  case atStart => exact ⟨0, by omega, rfl, ⟨LLs.nil _ _, HB0.out.2, HB0.out.1⟩, by simp⟩
  case round =>
    clear HB0
    obtain ⟨i, hi, rfl, HG, hsz⟩ := hrel
    rename World => wA
    by_cases hlt : i < m
    · have hib : (i : Int) < (m : Int) := by omega
      have hib0 : (0 : Int) ≤ (i : Int) := by omega
      obtain ⟨bB, oB, ub, rfl, hcB, hrB⟩ := (HF.out.2.2.2.2.1.below HG.out.2.1) 0 (by omega)
      obtain ⟨Ab, cAb, rfl, _⟩ := hrB
      have hl0 : (0 : Int) < (l : Int) + 1 := by omega
      rw [Nat.add_zero] at hcB
      go_wp2_with (at_make; refine make_int rfl _ _ rfl _ (n + 1) rfl rfl (by omega) (by omega) ?_; intro w1 hown1 hgrow1)
      have HI : Hid (Row wA.heap.size (n + 1) pnil w1 ∧ Below wA.heap.size wA w1) := ⟨row_zeros hown1, below_grown hgrow1 (Nat.le_refl _) (fun k hk => by simp at hk)⟩
      clear hown1 hgrow1 hcB
      obtain ⟨g, hg⟩ : ∃ g, g = wA.heap.size := ⟨_, rfl⟩
      have HI2 : Hid (Row g (n + 1) pnil w1 ∧ Below wA.heap.size wA w1) := by rw [hg]; exact HI.out
      rw [← hg]
      have hgA : wA.heap.size ≤ g := by omega
      clear HI hg
      go_wp2_with fail
      go_loopw [10] (fun vk wi => ∃ k : Nat, k ≤ l + 1 ∧ vk = .int .i64 k ∧ Hid (Row g (n + 1) (prodR D (A i) B k) wi ∧ Below wA.heap.size wA wi)) (fun vk _ => l + 1 - (intOf vk).toNat)
      case atStart => exact ⟨0, by omega, rfl, HI2.out⟩
      case round =>
        clear HI2
        obtain ⟨k, hk, rfl, HK⟩ := hrel
        rename World => wB
        by_cases hkl : k < l + 1
        · have hkb : (k : Int) < (l : Int) + 1 := by omega
          have hkb0 : (0 : Int) ≤ (k : Int) := by omega
          go_wp2_with fail
          go_loopw [11] (fun vj wi => ∃ j : Nat, j ≤ n + 1 ∧ vj = .int .i64 j ∧ Hid (Row g (n + 1) (fun c => if c < j then prodR D (A i) B (k + 1) c else prodR D (A i) B k c) wi ∧ Below wA.heap.size wA wi)) (fun vj _ => n + 1 - (intOf vj).toNat)
          case atStart => exact ⟨0, by omega, rfl, HK.out.1.congr (fun c _ => by rw [if_neg (by omega)]), HK.out.2⟩
          case round =>
            clear HK
            obtain ⟨j, hj, rfl, HJ⟩ := hrel
            rename World => wC
            by_cases hjn : j < n + 1
            · have hjb : (j : Int) < (n : Int) + 1 := by omega
              have hjb0 : (0 : Int) ≤ (j : Int) := by omega
              have hbw := bel_up' HG.out.2.1 HJ.out.2
              obtain ⟨bA, oA, uA, rfl, hcA, hrA⟩ := (HF.out.2.2.2.1.below hbw) i hlt
              obtain ⟨xA, cxA, rfl, hsA, hlA, _⟩ := hrA
              obtain ⟨bx, ox, rfl, hcx⟩ := hsA k hkl
              obtain ⟨bB', oB', uB, eB, hcB, hrB⟩ := (HF.out.2.2.2.2.1.below hbw) k hkl
              cases eB
              obtain ⟨yB, cyB, rfl, hsB, hlB, _⟩ := hrB
              obtain ⟨by', oy, rfl, hcy⟩ := hsB j hjn
              obtain ⟨x, hx⟩ : ∃ x, x = A i k := ⟨_, rfl⟩
              obtain ⟨y, hy⟩ : ∃ y, y = B k j := ⟨_, rfl⟩
              obtain ⟨z, hz⟩ : ∃ z, z = prodR D (A i) B k j := ⟨_, rfl⟩
              obtain ⟨p, hp⟩ : ∃ p, p = D.mul x y := ⟨_, rfl⟩
              obtain ⟨u, hu⟩ : ∃ u, u = D.ad z p := ⟨_, rfl⟩
              have hcz : wC.cell? ⟨g, j, none⟩ = some (.int .i64 (z : Nat)) := by
                have h := HJ.out.1.cell j hjn
                rw [if_neg (by omega), ← hz] at h; exact h
              rw [← hx] at hcx
              rw [← hy] at hcy
              have F := fld HF.out.1
              have hxq : x < D.q := by rw [hx]; exact HF.out.2.1 i hlt k
              have hyq : y < D.q := by rw [hy]; exact HF.out.2.2.1 k hkl j
              have hzq : z < D.q := by rw [hz]; exact prodR_el F _ _ _ _
              have hpq : p < D.q := by rw [hp]; exact F.mul_lt _ _
              have hbx := HG.out.2.2.below HJ.out.2 hsz
              have k0 := cell_regrown hbx.c0
              have k1 := cell_regrown hbx.c1
              have k2 := cell_regrown hbx.c2
              have k3 := cell_regrown hbx.c3
              have k4 := cell_regrown hbx.c4
              have k5 := cell_regrown hcz
              have k6 := cell_regrown hcA
              have k7 := cell_regrown hcx
              have k8 := cell_regrown hcB
              have k9 := cell_regrown hcy
              have k10 := free_regrown HJ.out.1.lt (HJ.out.1.free j)
              have HC1 : Hid (∀ d os, Calls Try.prog 85 #[.agg #[.int .i64 D.q, .int .i64 D.p, .int .i64 D.m, .int .i64 gen, .slice (some ⟨gm, 0, none⟩) (D.m + 1) cm], .int .i64 (x : Nat), .int .i64 (y : Nat)] (grow (redrawn wC d) os) fun e w'' => e = .returned (.int .i64 (p : Nat)) ∧ ∃ p : Regrown, w'' = grow (redrawn wC p.d) p.os) := fun d os => by
                rw [hp]
                exact Calls.regrown_of (rmul_nat HF.out.1 gen HF.out.2.2.2.2.2 x y hxq hyq _ (bel_up' hbw (below_regrown wC d os)))
              have HC2 : Hid (∀ d os, Calls Try.prog 84 #[.agg #[.int .i64 D.q, .int .i64 D.p, .int .i64 D.m, .int .i64 gen, .slice (some ⟨gm, 0, none⟩) (D.m + 1) cm], .int .i64 (z : Nat), .int .i64 (p : Nat)] (grow (redrawn wC d) os) fun e w'' => e = .returned (.int .i64 (u : Nat)) ∧ ∃ p : Regrown, w'' = grow (redrawn wC p.d) p.os) := fun d os => by
                have h := radd_nat HF.out.1 gen (.slice (some ⟨gm, 0, none⟩) (D.m + 1) cm) z p hzq hpq (grow (redrawn wC d) os)
                rw [hu]
                exact Calls.regrown_of h
              have HV : Hid (∀ c, c < n + 1 → (if c < j + 1 then prodR D (A i) B (k + 1) c else prodR D (A i) B k c) = if c = j then u else if c < j then prodR D (A i) B (k + 1) c else prodR D (A i) B k c) := fun c _ => by
                by_cases e : c = j
                · rw [if_pos e, if_pos (by omega), hu, e, hz, hp, hx, hy]; rfl
                · rw [if_neg e]
                  by_cases e2 : c < j
                  · rw [if_pos e2, if_pos (by omega)]
                  · rw [if_neg e2, if_neg (by omega)]
              clear hx hy hz hp hu hcz hcx hcy hcA hcB hbx hbw hsA hsB hlA hlB F
              go_wp2
              refine below_tail 25 (by kernel_rfl) (by kernel_rfl) ?_
              simp only [List.take_succ_cons, List.take_zero, List.drop_succ_cons, List.drop_zero]
              repeat (go_big_quiet_step (first | (go_at_call 85; exact HC1.out _ _) | (go_at_call 84; exact HC2.out _ _)))
              refine wpQuiet_nil ?_
              intro _ hw'
              obtain ⟨⟨ds, oss⟩, hw''⟩ := hw'
              subst hw''
              have hb7 := below_regrown wC ds oss
              have H7 : Hid (Row g (n + 1) (fun c => if c < j then prodR D (A i) B (k + 1) c else prodR D (A i) B k c) (grow (redrawn wC ds) oss) ∧ Below wA.heap.size wA (grow (redrawn wC ds) oss)) := ⟨HJ.out.1.below hb7 HJ.out.1.lt, bel_up' HJ.out.2 hb7⟩
              clear hb7
              go_wp2
              go_roundw
              case rel => exact ⟨j + 1, by omega, by go_num, H7.out.1.store j u HV.out, H7.out.2.setCell hgA _⟩
              case measure => simp [intOf]; omega
            · have hjb : ¬ (j : Int) < (n : Int) + 1 := by omega
              have HK2 : Hid (Row g (n + 1) (prodR D (A i) B (k + 1)) wC) := HJ.out.1.congr (fun c hc => by rw [if_pos (by omega)])
              go_wp2
              go_roundw
              case rel => exact ⟨k + 1, by omega, by go_num, HK2.out, HJ.out.2⟩
              case measure => simp [intOf]; omega
        · have hkb : ¬ (k : Int) < (l : Int) + 1 := by omega
          have hke : k = l + 1 := by omega
          subst hke
          obtain ⟨lst, hov, hels⟩ := HG.out.1
          have hll : lst.length ≤ 1000000 := by rw [hels.1, rl_len]; omega
          have HV : Hid (OwnV (w.heap.size + 1) u7 lst wB ∧ Elms lst (rl i n fun i => prodR D (A i) B (l + 1)) wB ∧ Elm (.slice (some ⟨g, 0, none⟩) (n + 1) (n + 1)) (n, prodR D (A i) B (l + 1)) wB) := ⟨hov.below HK.out.2 (Nat.le_refl _), hels.below HK.out.2 (Nat.le_refl _), ⟨g, n + 1, rfl, Nat.le_refl _, by show n + 1 ≤ 9223372036854775807; omega, HK.out.1⟩⟩
          have hsB := HK.out.2.size
          clear hov hels
          go_wp2_with (at_builtin; refine append_sl rfl _ _ rfl (w.heap.size + 1) u7 lst rfl (HV.out.1.below ((Below.refl _ _).alloc (Nat.le_refl _) _) (Nat.le_refl _)) ⟨wB.heap.size, 0, none⟩ 1 (.slice (some ⟨g, 0, none⟩) (n + 1) (n + 1)) rfl rfl (by rw [cell_of_row _ _ _ _ _ (0, 0) (two_new _)]; rfl) hll (by simp; omega) ?_; intro v' w6 hown6 hg6)
          have hal : Below wB.heap.size wB (wB.alloc (.cells #[.slice (some ⟨g, 0, none⟩) (n + 1) (n + 1)] 22)) := (Below.refl _ _).alloc (Nat.le_refl _) _
          have ho := HV.out.1.below hal (Nat.le_refl _)
          have hs6 := hg6.size
          have hbw := bel_up' HG.out.2.1 (bel_up' HK.out.2 hal)
          have HR : Hid (LLs (w.heap.size + 1) v' (rl (i + 1) n fun i => prodR D (A i) B (l + 1)) w6 ∧ Below w.heap.size w w6 ∧ Box w.heap.size D gen (.slice (some ⟨gm, 0, none⟩) (D.m + 1) cm) w6) := by
            refine ⟨⟨_, hown6, ?_⟩, hbw.grown hg6 (by simp; omega) (fun k hk => by have := ho.open_ge k hk; omega), ?_⟩
            · have h := ((HV.out.2.1.below hal (Nat.le_refl _)).snoc (HV.out.2.2.below hal (Nat.le_refl _))).grown ho hg6
              rw [rl_succ]; exact h
            · refine ((HG.out.2.2.below HK.out.2 hsz).below hal (by omega)).other (hg6.block w.heap.size (by simp; omega) fun e => ?_)
              have := ho.open_ge _ e.symm
              omega
          simp at hs6
          clear hown6 hg6 ho hbw hal
          go_roundw
          case rel => exact ⟨i + 1, by omega, by go_num, HR.out, by omega⟩
          case measure => simp [intOf]; omega
    · have hib : ¬ (i : Int) < (m : Int) := by omega
      have hie : i = m := by omega
      subst hie
      go_wp2
      go_ret
      exact ⟨_, rfl, HG.out.1.mono (by omega), HG.out.2.1⟩
end Go.Proofs.Ythmjdcajaoilgab
