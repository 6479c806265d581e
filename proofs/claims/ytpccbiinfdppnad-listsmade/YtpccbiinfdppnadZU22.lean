/- Texts of ours, one behind the other: U22 W7 V9 V10 N7. -/
import Derived.Test.YtpccbiinfdppnadZV7
import Derived.Deep.CutBlock
import Derived.Deep.DeepCutAuto
/- The program's polynomials: the calls that are listed: Through, Factors, Irreducible. -/
namespace Go.Proofs.Ytpccbiinfdppnad
open Go.RowKit

theorem mon_mn {D : FD} (hD : D ∈ fieldsL) {c : Nat → Nat} {l : Nat} (he : El D c) (ht : Trd (l + 1) c) : Mn D l (D.mon c (l + 1)) := by
  have F := fld hD
  refine ⟨mon_el hD _ _, (mon_trd hD he ht).1, ?_⟩
  show D.mul (D.iv (c l)) (c l) = 1
  rw [F.mul_comm]
  exact iv_is hD (he l) (ht.2 (by omega))

/-- What Factors says of a list: its error, the parts. -/
def FacSpec (D : FD) (n : Nat) (z : Nat → Int) (er : Int) (L : List (Nat × (Nat → Nat))) : Prop :=
  (D.chk n z = 0 ∧ dgn (zc n z) n ≠ 0 ∧ D.q ^ ((dgn (zc n z) n - 1) / 2) ≤ 4096 ∧ er = 0 ∧ Pre D L (D.mon (zc n z) (dgn (zc n z) n)) pone) ∨
  (D.chk n z = 0 ∧ dgn (zc n z) n ≠ 0 ∧ 4096 < D.q ^ ((dgn (zc n z) n - 1) / 2) ∧ er = 4 ∧ L = []) ∨ (D.chk n z = 0 ∧ dgn (zc n z) n = 0 ∧ er = 5 ∧ L = []) ∨ (D.chk n z ≠ 0 ∧ er = D.chk n z ∧ L = [])
theorem facSpec_uniq {D : FD} (F : Fld D) {n : Nat} {z : Nat → Int} {er er' : Int} {L L' : List (Nat × (Nat → Nat))} (h : FacSpec D n z er L) (h' : FacSpec D n z er' L') : er = er' ∧ L = L' := by
  rcases h with ⟨h1, h2, h3, h4, h5⟩ | ⟨h1, h2, h3, h4, h5⟩ | ⟨h1, h2, h4, h5⟩ | ⟨h1, h4, h5⟩ <;>
  rcases h' with ⟨k1, k2, k3, k4, k5⟩ | ⟨k1, k2, k3, k4, k5⟩ | ⟨k1, k2, k4, k5⟩ | ⟨k1, k4, k5⟩ <;>
  first
  | (exfalso; omega)
  | exact ⟨by rw [h4, k4], pre_uniq F _ _ _ h5 k5⟩
  | exact ⟨by rw [h4, k4], by rw [h5, k5]⟩
theorem LLs.slice {base : Nat} {v : Value} {L : List (Nat × (Nat → Nat))} {w : World} (h : LLs base v L w) : ∃ ao cap, v = .slice ao L.length cap := by
  obtain ⟨l, h1, h2⟩ := h
  obtain ⟨ao, cap, hv, _⟩ := h1.open
  exact ⟨ao, cap, by rw [hv, h2.1]⟩

end Go.Proofs.Ytpccbiinfdppnad

/- Lists of numbers that a call makes for itself: others' numbers laid behind them (append(v, l...)); a copy, as a plain list. -/
namespace Go.Proofs.Ytpccbiinfdppnad
open Go.RowKit

/-- The first n numbers of z, as a list. -/
def zl (n : Nat) (z : Nat → Int) : List Int := (List.range n).map z
theorem zl_len (n : Nat) (z : Nat → Int) : (zl n z).length = n := by simp [zl]
theorem zl_get (n : Nat) (z : Nat → Int) (j : Nat) (hj : j < n) : (zl n z)[j]? = some (z j) := by
  unfold zl
  rw [List.getElem?_map, List.getElem?_range hj]; rfl
theorem zl_getD (n : Nat) (z : Nat → Int) (j : Nat) (hj : j < n) : (zl n z).getD j 0 = z j := by
  rw [List.getD_eq_getElem?_getD, zl_get n z j hj]; rfl
theorem zl_congr {n : Nat} {z y : Nat → Int} (h : ∀ j, j < n → z j = y j) : zl n z = zl n y := by
  unfold zl
  exact List.map_congr_left (fun j hj => h j (List.mem_range.1 hj))
theorem zl_succ (n : Nat) (z : Nat → Int) : zl (n + 1) z = zl n z ++ [z n] := by
  unfold zl
  rw [List.range_succ, List.map_append]; rfl

/-- 'append(v, l...)', v the call's own list. -/
theorem append_ints {ops : Array Oper} {rest : List Oper} {o : Oper} {a : Act} {w : World} {Q : Exit → Act → World → Prop} (hgd : o.guard = none) (s x : Operand)
    (ho : o.op = .call { callee := .builtin .append, args := #[s, x], argTypes := #[22, 22] })
    (base : Nat) (v : Value) (l : List Int) (hs : a.eval s = v) (hown : OwnI base v l w) (ao : Option Addr) (n sc : Nat) (z : Nat → Int) (hx : a.eval x = .slice ao n sc) (hS : SlZ ao n z w) (hnil : ao = none → sc = 0)
    (hn : l.length + n ≤ 1000000) (hbase : base ≤ w.heap.size)
    (h : ∀ v' w', OwnI base v' (l ++ zl n z) w' → w.grownBy w' v.ownBlock → wpList Try.prog ops Q rest (a.put o.dst v') w') : wpList Try.prog ops Q (o :: rest) a w := by
  obtain ⟨i0, hi, hz0, hz1, hz2⟩ := info_parts Try.infoInt
  cases ao with
  | none =>
    have h0 : n = 0 := by
      rcases Nat.eq_zero_or_pos n with e | e
      · exact e
      · obtain ⟨b, off, h1, _⟩ := hS 0 e
        cases h1
    subst h0
    rw [hnil rfl] at hx
    refine wpList_append_own_none hgd s x 22 ho base 3 i0 1 Try.underlying22 hi v l.length _ hs hown hx ?_
    exact h v w (by have e : l ++ zl 0 z = l := by simp [zl]
                    rw [e]; exact hown) (grown_refl _ _)
  | some ad =>
    refine wpList_append_own _ hgd s x 22 ho base 3 i0 (.int .i64 0) 1 8 Try.underlying22 hi hz0 hz1 hz2 rfl (by decide) v l.length _ hs hown ad n sc ((zl n z).map (Value.int .i64)) hx (by rw [List.length_map, zl_len]; omega) ?_ ?_ ?_ ?_ hbase ?_
    · intro j u hj
      have hj' : j < n := by
        have := (List.getElem?_eq_some_iff.1 hj).1
        rwa [List.length_map, zl_len] at this
      rw [List.getElem?_map, zl_get n z j hj'] at hj
      cases hj
      obtain ⟨b, off, e, hc⟩ := hS j hj'
      cases e
      rw [add_off]; exact hc
    · intro u hu
      obtain ⟨k, _, rfl⟩ := List.mem_map.1 hu
      rfl
    · unfold maxLen; omega
    · omega
    · intro v' w' hown' hgrow _
      refine h v' w' ?_ hgrow
      unfold OwnI
      rw [List.map_append, List.length_append, zl_len]
      exact hown'

set_option maxHeartbeats 1000000 in
set_option maxRecDepth 100000 in
theorem copyI_any {ao : Option Addr} {n cap : Nat} {z : Nat → Int} {w : World} (h : SlZ ao n z w) (hn : n ≤ 1000000) (hnil : ao = none → cap = 0) (hl : LtB ao w.heap.size) :
    Calls Try.prog 45 #[.slice ao n cap] w fun e w' => ∃ v, e = .returned v ∧ OwnI w.heap.size v (zl n z) w' ∧ Below w.heap.size w w' := by
  have HS : Hid (SlZ ao n z w ∧ (ao = none → cap = 0) ∧ LtB ao w.heap.size) := ⟨h, hnil, hl⟩
  clear h hnil hl
  go_enter Try.func45, Try.ntmps45
  go_wp2_with (at_builtin; refine append_ints rfl _ _ rfl w.heap.size _ [] rfl (own_empty (two_new _) (Nat.le_refl _)) ao n cap z rfl (HS.out.1.below ((Below.refl _ _).alloc (Nat.le_refl _) _) HS.out.2.2) HS.out.2.1 (by simpa using hn) (by simp) ?_; intro v' w' hown hgrow)
  go_ret
  exact ⟨_, rfl, hown, ((Below.refl _ _).alloc (Nat.le_refl _) _).grown hgrow (by simp) (by intro k hk; have hk : some w.heap.size = some k := hk; cases hk; exact Nat.le_refl _)⟩

/-- Numbers from 0 on: a polynomial's row. -/
theorem OwnI.ownC {base : Nat} {v : Value} {l : List Int} {w : World} (h : OwnI base v l w) (c : Nat → Nat) (hc : ∀ k, k < l.length → l.getD k 0 = (c k : Nat)) : OwnP base v l.length c w := by
  rcases h.2 with ⟨h1, h2⟩ | ⟨g, cap, cur, hv, hg, hh, hle, hcm, hsz, htake⟩
  · exact ⟨none, 0, by rw [h1, h2], by omega, by omega, fun x hx => (by cases hx), fun x hx => (by cases hx), fun _ => rfl, fun h0 => absurd h0 (by omega)⟩
  · refine ⟨_, cap, hv, hle, by unfold maxLen at hcm; omega, fun x hx => (by cases hx; exact hg), fun x hx => (by cases hx; exact lt_of_block hh), fun e => (by cases e), fun _ => ⟨g, rfl, cap, fun k => (cur[k]?).getD (.int .i64 0), ⟨cur, hh, by omega, fun k hk => ?_⟩, hle, fun k hk => ?_⟩⟩
    · show _ = some (Option.getD _ _)
      rw [Array.getElem?_eq_getElem (by omega)]; rfl
    · have h3 : (cur.toList.take (l.length * 1))[k]? = (l.map (Value.int .i64))[k]? := by rw [htake]
      rw [List.getElem?_take, if_pos (by omega), List.getElem?_map, List.getElem?_eq_getElem hk] at h3
      show (cur[k]?).getD _ = _
      have h4 := hc k hk
      rw [List.getD_eq_getElem?_getD, List.getElem?_eq_getElem hk] at h4
      rw [← Array.getElem?_toList, h3]
      show Value.int .i64 _ = _
      rw [← h4]; rfl
theorem OwnI.block {base : Nat} {v : Value} {l : List Int} {w : World} (h : OwnI base v l w) : ∀ k, v.ownBlock = some k → base ≤ k := fun k hk => (h.lt k hk).1
theorem OwnP.block {base n : Nat} {v : Value} {c : Nat → Nat} {w : World} (h : OwnP base v n c w) : ∀ k, v.ownBlock = some k → base ≤ k := by
  obtain ⟨ao, cap, rfl, _, _, hg, _⟩ := h
  intro k hk
  cases ao with
  | none => cases hk
  | some x =>
    have hk : some x.block = some k := hk
    cases hk
    exact hg x rfl

/-- What lies elsewhere stays where one block is written. -/
theorem Elm.apart {v : Value} {p : Nat × (Nat → Nat)} {w w' : World} {g : Nat} (h : Elm v p w) (hg : w.grownBy w' (some g)) (hne : v.ownBlock ≠ some g) : Elm v p w' := by
  obtain ⟨g', cap, e, h1, h2, hr⟩ := h
  refine ⟨g', cap, e, h1, h2, hr.other (hg.block g' hr.lt ?_)⟩
  intro e'
  rw [e] at hne
  exact hne e'
/-- A list of lists, none of which lies in block g. -/
def LLx (g base : Nat) (v : Value) (L : List (Nat × (Nat → Nat))) (w : World) : Prop := ∃ l, OwnV base v l w ∧ Elms l L w ∧ ∀ u ∈ l, u.ownBlock ≠ some g
theorem LLx.lls {g base : Nat} {v : Value} {L : List (Nat × (Nat → Nat))} {w : World} (h : LLx g base v L w) : LLs base v L w := by
  obtain ⟨l, h1, h2, _⟩ := h
  exact ⟨l, h1, h2⟩
theorem LLx.below {g base B : Nat} {v : Value} {L : List (Nat × (Nat → Nat))} {w w' : World} (h : LLx g base v L w) (hb : Below B w w') (hB : w.heap.size ≤ B) : LLx g base v L w' := by
  obtain ⟨l, h1, h2, h3⟩ := h
  exact ⟨l, h1.below hb hB, h2.below hb hB, h3⟩
theorem LLx.apart {g base N : Nat} {c : Nat → Nat} {v : Value} {L : List (Nat × (Nat → Nat))} {w w' : World} (h : LLx g base v L w) (hr : Row g N c w) (hg : w.grownBy w' (some g)) : LLx g base v L w' := by
  obtain ⟨l, h1, h2, h3⟩ := h
  refine ⟨l, World.ownsRow.kept h1 hg (Or.inr fun e => hr.apart h1 e.symm), ⟨h2.1, fun j u p hu hp => (h2.2 j u p hu hp).apart hg (h3 u (List.mem_of_getElem? hu))⟩, h3⟩
/-- A block that is not there yet holds none of them. -/
theorem LLs.fresh {base : Nat} {v : Value} {L : List (Nat × (Nat → Nat))} {w : World} (h : LLs base v L w) : LLx w.heap.size base v L w := by
  obtain ⟨l, h1, h2⟩ := h
  refine ⟨l, h1, h2, fun u hu => ?_⟩
  obtain ⟨j, hj, e⟩ := List.getElem_of_mem hu
  have hj2 : j < L.length := by rw [← h2.1]; exact hj
  obtain ⟨g', cap, e', _, _, hr⟩ := h2.2 j u L[j] (by rw [List.getElem?_eq_getElem hj, e]) (List.getElem?_eq_getElem hj2)
  rw [e']
  intro x
  have x : some g' = some w.heap.size := x
  cases x
  have := hr.lt
  omega
end Go.Proofs.Ytpccbiinfdppnad

/- The reference's polynomials: the next list (Next), which is ahead (Below). -/
namespace Go.Proofs.Ytpccbiinfdppnad
open Go.RowKit

set_option maxHeartbeats 2000000 in
set_option maxRecDepth 100000 in
theorem rnext_any {D : FD} (hD : D ∈ fieldsL) {g d ca : Nat} {c : Nat → Nat} {w : World} (hc : Mn D d c) (hd : d ≤ 1000) (hr : Row g d c w) :
    Calls Try.prog 46 #[.slice (some ⟨g, 0, none⟩) d ca, .int .i64 D.q] w fun e w' => w.grownBy w' (some g) ∧
      ((e = .returned (.bool true) ∧ ∃ c', Row g d c' w' ∧ Mn D d c' ∧ Aft D d c d c') ∨ (e = .returned (.bool false) ∧ (∀ k, 0 ≤ k → k < d → c k = D.q - 1) ∧ Row g d pnil w')) := by
  have HC : Hid (D ∈ fieldsL ∧ Mn D d c ∧ Row g d c w) := ⟨hD, hc, hr⟩
  have h64 := (fld hD).q64
  clear hD hc hr
  go_enter Try.func46, Try.ntmps46
  go_wp2
  go_loopw [5] (fun i wr => ∃ s : Nat, s ≤ d ∧ i = .int .i64 ((s : Int) - 1) ∧ Hid (∀ k, s ≤ k → k < d → c k = D.q - 1) ∧ Row g d (cnt c d s) wr ∧ w.grownBy wr (some g)) (fun i _ => (intOf i + 1).toNat)
  case atStart => exact ⟨d, Nat.le_refl _, by go_num, fun k h1 h2 => by omega, by rw [cnt_all]; exact HC.out.2.2, grown_refl _ _⟩
  case round =>
    obtain ⟨s, hs, hi, H9, hrow, hgr⟩ := hrel
    have HG : Hid (Row g d (cnt c d s) wr ∧ w.grownBy wr (some g)) := ⟨hrow, hgr⟩
    clear hrow hgr
    cases s with
    | succ s =>
      have hi' : u5 = .int .i64 (s : Int) := by rw [hi]; go_num
      clear hi
      subst hi'
      obtain ⟨x, hx⟩ : ∃ x, x = c s := ⟨_, rfl⟩
      have hxq : x < D.q := by rw [hx]; exact HC.out.2.1.el s
      have hcl : wr.cell? ⟨g, s, none⟩ = some (.int .i64 (x : Nat)) := by rw [HG.out.1.cell s (by omega), cnt_at, hx]
      have hfr := HG.out.1.free s
      have hib : (s : Int) < (d : Int) := by omega
      have HX : Hid (x = c s) := hx
      clear hx
      have HR : Hid (Row g d (cup c d s) (wr.setCell ⟨g, s, none⟩ (.int .i64 ((x : Int) + 1)))) := by
        have h := HG.out.1.store s (x + 1) (d := cup c d s) (fun j _ => by unfold cup; rw [HX.out])
        rw [Int.natCast_add] at h; exact h
      by_cases hlt : x + 1 < D.q
      · go_wp2
        go_ret
        have hm := cup_aft (fld HC.out.1) HC.out.2.1 (by omega) (by rw [← HX.out]; exact hlt) H9.out
        exact ⟨grown_set HG.out.2 _ _, Or.inl ⟨rfl, cup c d s, HR.out, hm.1, hm.2⟩⟩
      · have HZ : Hid (∀ k, s ≤ k → k < d → c k = D.q - 1) := fun k h1 h2 => by
          by_cases e : k = s
          · rw [e, ← HX.out]; omega
          · exact H9.out k (by omega) h2
        go_wp2
        go_roundw
        case rel => exact ⟨s, by omega, by go_num, HZ.out, HR.out.store s 0 (fun j _ => cnt_step c (by omega) j), grown_set (grown_set HG.out.2 _ _) _ _⟩
        case measure => simp [intOf]
    | zero =>
      have hi' : u5 = .int .i64 (-1) := by rw [hi]; rfl
      clear hi
      subst hi'
      go_wp2
      go_ret
      exact ⟨HG.out.2, Or.inr ⟨rfl, H9.out, HG.out.1.congr (fun k hk => by unfold cnt; rw [if_pos (by omega)]; rfl)⟩⟩

end Go.Proofs.Ytpccbiinfdppnad

/- The reference's polynomials: parts (Factors). -/
namespace Go.Proofs.Ytpccbiinfdppnad
open Go.RowKit Go.Sort

theorem pd_deg {D : FD} (hD : D ∈ fieldsL) {a x : Nat → Nat} {da dx : Nat} (ha : Mn D da a) (hx : Mn D dx x) (h : PD D x a) : dx ≤ da := by
  obtain ⟨m, b, eb, hm, e⟩ := h
  obtain ⟨db, _, h2⟩ := mn_quot hD ha hx eb hm e
  omega
theorem pre_deg {D : FD} (hD : D ∈ fieldsL) : ∀ {L : List (Nat × (Nat → Nat))} {a0 a : Nat → Nat} {da : Nat}, Mn D da a0 → Pre D L a0 a → ∀ p, p ∈ L → p.1 ≤ da
  | [], _, _, _, _, _, p, hp => by simp at hp
  | r :: L, a0, a, da, h0, ⟨h1, m, b, h2, h3, h4, h5⟩, p, hp => by
    obtain ⟨db, h6, h7⟩ := mn_quot hD h0 h1.mn h2 h3 h4
    rcases List.mem_cons.1 hp with rfl | hp
    · omega
    · have := pre_deg hD h6 h5 p hp
      omega

theorem pre_length {D : FD} (hD : D ∈ fieldsL) : ∀ {L : List (Nat × (Nat → Nat))} {a0 a : Nat → Nat} {da : Nat}, Mn D da a0 → Pre D L a0 a → L.length ≤ da
  | [], _, _, _, _, _ => Nat.zero_le _
  | r :: L, a0, a, da, h0, ⟨h1, m, b, h2, h3, h4, h5⟩ => by
    obtain ⟨db, h6, h7⟩ := mn_quot hD h0 h1.mn h2 h3 h4
    have := pre_length hD h6 h5
    have := h1.pos
    simp only [List.length_cons]
    omega

/-- A copy of d coefficients with 1 behind them. -/
theorem tryX_new {D : FD} {base d : Nat} {v : Value} {x : Nat → Nat} {w : World} (h : OwnI base v ((zl d fun j => (x j : Nat)) ++ [1]) w) (hx : Mn D d x) : Elm v (d, x) w := by
  have h1 : ((zl d fun j => ((x j : Nat) : Int)) ++ [1]).length = d + 1 := by rw [List.length_append, zl_len]; rfl
  have h2 := h.ownC x (fun k hk => by
    rw [h1] at hk
    rw [List.getD_eq_getElem?_getD]
    by_cases e : k < d
    · rw [List.getElem?_append_left (by rw [zl_len]; exact e), zl_get d _ k e]; rfl
    · have e : k = d := by omega
      subst e
      rw [List.getElem?_append_right (by rw [zl_len]; omega), zl_len, Nat.sub_self, hx.top]; rfl)
  rw [h1] at h2
  exact h2.elm

/-- What is left, while lists of d numbers are tried: how many steps at the most. -/
def tryM (D : FD) (d da : Nat) (x : Nat → Nat) : Nat := 1 + da * D.q ^ d + (D.q ^ d - dnum D.q x d)
theorem tryM_found {D : FD} (F : Fld D) {d da db : Nat} {x : Nat → Nat} (h : db < da) : tryM D d db x < tryM D d da x := by
  unfold tryM
  have h1 : (db + 1) * D.q ^ d ≤ da * D.q ^ d := Nat.mul_le_mul_right _ h
  have h2 : 0 < D.q ^ d := Nat.pow_pos (by have := F.q2; omega)
  rw [Nat.add_mul, Nat.one_mul] at h1
  omega
theorem tryM_next {D : FD} {d da : Nat} {x y : Nat → Nat} (_hx : Mn D d x) (hy : Mn D d y) (h : Aft D d x d y) : tryM D d da y < tryM D d da x := by
  unfold tryM
  have h1 := dnum_lt (q := D.q) (c := y) d (fun i _ => hy.el i)
  rcases h with ⟨_, h⟩ | ⟨h, _⟩ <;> omega
theorem tryM_pos (D : FD) (d da : Nat) (x : Nat → Nat) : 0 < tryM D d da x := by unfold tryM; omega

/-- While lists of d numbers are tried: what is left, what is tried next, if anything. -/
def TrySt (D : FD) (gen gm cm : Nat) (a0 : Nat → Nat) (g d : Nat) (w : World) (k : Nat) (va vo vm : Value) (wi : World) : Prop :=
  ∃ (da : Nat) (a : Nat → Nat) (L : List (Nat × (Nat → Nat))), L.length + da ≤ 127 ∧ g < wi.heap.size ∧ Hid (Elm va (da, a) wi ∧ va.ownBlock ≠ some g ∧ LLx g (w.heap.size + 1) vo L wi ∧ Below w.heap.size w wi ∧ Box w.heap.size D gen (.slice (some ⟨gm, 0, none⟩) (D.m + 1) cm) wi) ∧
    ((vm = .bool true ∧ ∃ x, Hid (Row g d x wi ∧ PSt D a0 a x L da d ∧ k = tryM D d da x)) ∨ (vm = .bool false ∧ Hid (PSt D a0 a (xpow (d + 1)) L da (d + 1))))
end Go.Proofs.Ytpccbiinfdppnad

/- Plain mathematics of polynomials, gone on: Euclid's lemma; parting is unique. No Go text here. -/
namespace Go.Proofs.Ytpccbiinfdppnad

theorem pd_mull {D : FD} (F : Fld D) {p a S : Nat → Nat} {m : Nat} (h : PD D p a) : PD D p (pmul D m S a) := by
  obtain ⟨n, Q, eQ, hn, rfl⟩ := h
  refine ⟨m + n, pmul D m S Q, el_mul F _ _ _, (pmul_bd F hn m).mono (by omega), ?_⟩
  exact (pmul_assoc F hn m (m + n) (Nat.le_refl _)).symm
theorem pd_mulr {D : FD} (F : Fld D) {p f g : Nat → Nat} {n m : Nat} (ef : El D f) (eg : El D g) (hn : Bd n f) (hm : Bd m g) (h : PD D p f) : PD D p (pmul D n f g) := by
  rw [pmul_comm F ef eg hn hm]
  exact pd_mull F h
theorem pd_add {D : FD} (F : Fld D) {p a b : Nat → Nat} (h1 : PD D p a) (h2 : PD D p b) : PD D p (padd D a b) := by
  obtain ⟨n, Q, eQ, hn, rfl⟩ := h1
  obtain ⟨m, R, eR, hm, rfl⟩ := h2
  refine ⟨n + m, padd D Q R, el_add F eQ eR, fun k hk => ?_, ?_⟩
  · show D.ad (Q k) (R k) = 0
    rw [hn k (by omega), hm k (by omega), ad_zero F (zero_lt' F)]
  · rw [pmul_add_l F eQ eR, pmul_to (N := n + m) F p hn (by omega), pmul_to (N := n + m) F p hm (by omega)]
theorem pd_scale {D : FD} (F : Fld D) {p a : Nat → Nat} (s : Nat) (h : PD D p a) : PD D p (pscale D s a) := by
  obtain ⟨n, Q, eQ, hn, rfl⟩ := h
  refine ⟨n, pscale D s Q, el_scale F _ _, fun k hk => ?_, (pmul_scale_l F s Q p n).symm⟩
  show D.mul s (Q k) = 0
  rw [hn k hk, mul0 F]
theorem pneg_add {D : FD} (F : Fld D) {x y : Nat → Nat} (ex : El D x) (ey : El D y) : padd D (padd D x y) (pscale D (D.ng 1) x) = y := by
  funext k
  show D.ad (D.ad (x k) (y k)) (D.mul (D.ng 1) (x k)) = y k
  rw [F.mul_comm, mul_ng F (one_lt' F), mul1 F (ex k), ad_comm F (x k) (y k), ad_assoc F (ey k) (ex k) (ng_lt F (ex k)), ad_ng F (ex k), ad_zero F (ey k)]
theorem pd_of_add {D : FD} (F : Fld D) {p x y : Nat → Nat} (ex : El D x) (ey : El D y) (h : PD D p (padd D x y)) (h1 : PD D p x) : PD D p y := by
  rw [← pneg_add F ex ey]
  exact pd_add F h (pd_scale F _ h1)
theorem pd_nil {D : FD} (F : Fld D) (p : Nat → Nat) : PD D p pnil := ⟨0, pnil, el_nil F, fun _ _ => rfl, rfl⟩

/-- It can't be parted: it is the first of all that divide it. -/
def Irr (D : FD) (p : Nat × (Nat → Nat)) : Prop := Lst D p.2 p.1 p.2

/-- Euclid: what can't be parted and divides a product divides one of the two. -/
theorem euclid {D : FD} (hD : D ∈ fieldsL) {p : Nat → Nat} {dp : Nat} (hp : Lst D p dp p) {g : Nat → Nat} {m : Nat} (eg : El D g) (hg : Bd m g) :
    ∀ (N : Nat) (f : Nat → Nat), El D f → Bd N f → PD D p (pmul D N f g) → PD D p f ∨ PD D p g := by
  have F := fld hD
  have hpt : p dp ≠ 0 := by rw [hp.mn.top]; omega
  have hpi : D.mul (p dp) (D.iv (p dp)) = 1 := iv_is hD (hp.mn.el dp) hpt
  intro N
  induction N using Nat.strongRecOn with
  | _ N ih =>
    intro f ef hf hd
    have hle := dgn_le f N
    by_cases h0 : dgn f N = 0
    · left
      have : Bd 0 f := by have := dgn_bd hf; rwa [h0] at this
      rw [bd_nil_of this]
      exact pd_nil F p
    · obtain ⟨l, hl⟩ : ∃ l, dgn f N = l + 1 := ⟨dgn f N - 1, by omega⟩
      have hfb : Bd (l + 1) f := by have := dgn_bd hf; rwa [hl] at this
      have hft : f l ≠ 0 := by have := dgn_top f N h0; rwa [hl, Nat.add_sub_cancel] at this
      rw [pmul_to F g hfb (by omega)] at hd
      by_cases hdp : dp < l + 1
      · -- f by p
        have hq := div_is F (b := p) (l := dp) (inv := D.iv (p dp)) (l + 1) ef
        have hrb : Bd dp (divR D p dp (D.iv (p dp)) (l + 1) f) := divR_bd F hp.mn.el hp.mn.bd hpi (l + 1) ef (hfb.mono (by omega))
        have er := el_divR F (b := p) (l := dp) (inv := D.iv (p dp)) (l + 1) ef
        have eq := el_divQ F (b := p) (l := dp) (inv := D.iv (p dp)) (l + 1) f
        have hqb := divQ_bd (D := D) (b := p) (l := dp) (inv := D.iv (p dp)) (l + 1) f
        obtain ⟨r, hr⟩ : ∃ r, r = divR D p dp (D.iv (p dp)) (l + 1) f := ⟨_, rfl⟩
        obtain ⟨Q, hQ⟩ : ∃ Q, Q = divQ D p dp (D.iv (p dp)) (l + 1) f := ⟨_, rfl⟩
        rw [← hr] at hq hrb er
        rw [← hQ] at hq eq hqb
        clear hr hQ
        have hqp : PD D p (pmul D (l + 1) Q p) := ⟨l + 1, Q, eq, hqb, rfl⟩
        have hpd : PD D p (pmul D dp r g) := by
          have e : pmul D (l + 1 + dp + 1) f g = padd D (pmul D (l + 1 + dp + 1) (pmul D (l + 1) Q p) g) (pmul D (l + 1 + dp + 1) r g) := by
            rw [← pmul_add_l F (el_mul F _ _ _) er, hq]
          rw [pmul_to F g hfb (by omega), pmul_to F g hrb (by omega)] at e
          rw [e] at hd
          exact pd_of_add F (el_mul F _ _ _) (el_mul F _ _ _) hd (pd_mulr F (el_mul F _ _ _) eg ((pmul_bd F hp.mn.bd (l + 1)).mono (by omega)) hg hqp)
        rcases ih dp (by omega) r er hrb hpd with h | h
        · left
          rw [← hq]
          exact pd_add F hqp h
        · exact Or.inr h
      · -- p by f
        have hfi : D.mul (f l) (D.iv (f l)) = 1 := iv_is hD (ef l) hft
        have hq := div_is F (b := f) (l := l) (inv := D.iv (f l)) (dp + 1) hp.mn.el
        have hrb : Bd l (divR D f l (D.iv (f l)) (dp + 1) p) := divR_bd F ef hfb hfi (dp + 1) hp.mn.el (hp.mn.bd.mono (by omega))
        have er := el_divR F (b := f) (l := l) (inv := D.iv (f l)) (dp + 1) hp.mn.el
        have eq := el_divQ F (b := f) (l := l) (inv := D.iv (f l)) (dp + 1) p
        have hqb := divQ_bd (D := D) (b := f) (l := l) (inv := D.iv (f l)) (dp + 1) p
        obtain ⟨r, hr⟩ : ∃ r, r = divR D f l (D.iv (f l)) (dp + 1) p := ⟨_, rfl⟩
        obtain ⟨Q, hQ⟩ : ∃ Q, Q = divQ D f l (D.iv (f l)) (dp + 1) p := ⟨_, rfl⟩
        rw [← hr] at hq hrb er
        rw [← hQ] at hq eq hqb
        clear hr hQ
        have hpd : PD D p (pmul D l r g) := by
          have e : pmul D (dp + 1 + l + 1) p g = padd D (pmul D (dp + 1 + l + 1) (pmul D (dp + 1) Q f) g) (pmul D (dp + 1 + l + 1) r g) := by
            rw [← pmul_add_l F (el_mul F _ _ _) er, hq]
          rw [pmul_to F g hp.mn.bd (by omega), pmul_to F g hrb (by omega), pmul_assoc F hfb (dp + 1) _ (by omega)] at e
          have h1 : PD D p (pmul D (dp + 1) p g) := pd_mulr F hp.mn.el eg hp.mn.bd hg (PD.refl F hp.mn.el)
          rw [e] at h1
          exact pd_of_add F (el_mul F _ _ _) (el_mul F _ _ _) h1 (pd_mull F hd)
        rcases ih l (by omega) r er hrb hpd with h | h
        · -- r is nought
          obtain ⟨n', S, eS, hS, e⟩ := h
          have hS0 : S = pnil := pmul_zero_of F hp.mn.bd hpt n' hS (by rw [← e]; exact hrb.mono (by omega))
          have hr0 : r = pnil := by rw [e, hS0, pmul_zeros F (a := pnil) p (fun _ _ => rfl)]
          rw [hr0, padd_nil F (el_mul F _ _ _)] at hq
          have hfm : Mn D l (D.mon f (l + 1)) := mon_mn hD ef ⟨hfb, fun _ => hft⟩
          have hfs : f = pscale D (f l) (D.mon f (l + 1)) := by
            unfold FD.mon
            rw [pscale_pscale F, Nat.add_sub_cancel, hfi, pscale_one F ef]
          by_cases hl1 : 1 ≤ l
          · exfalso
            refine hp.least l (D.mon f (l + 1)) hl1 hfm ⟨dp + 1, pscale D (f l) Q, el_scale F _ _, fun k hk => by show D.mul (f l) (Q k) = 0; rw [hqb k hk, mul0 F], ?_⟩ (Or.inl (by omega))
            rw [pmul_scale_l F, ← pmul_scale_r F, ← hfs, hq]
          · have hl0 : l = 0 := by omega
            subst hl0
            right
            have hone : D.mon f 1 = pone := mn_zero hfm
            rw [hone] at hfs
            have e1 : pmul D 1 f g = pscale D (f 0) g := by
              rw [hfs, pmul_scale_l F, show (pscale D (f 0) pone) 0 = f 0 from by show D.mul (f 0) (pone 0) = f 0; exact mul1 F (ef 0)]
              rw [pmul_comm F (el_one F) eg pone_bd hg, pmul_one F eg hg]
            rw [e1] at hd
            have := pd_scale F (D.iv (f 0)) hd
            rwa [pscale_pscale F, F.mul_comm, hfi, pscale_one F eg] at this
        · exact Or.inr h

/-- The product of all. -/
def prodL (D : FD) : List (Nat × (Nat → Nat)) → Nat → Nat
  | [] => pone
  | p :: L => pmul D (p.1 + 1) p.2 (prodL D L)
/-- None of them can be parted. -/
def Fac (D : FD) (L : List (Nat × (Nat → Nat))) : Prop := ∀ p, p ∈ L → Irr D p
def degL : List (Nat × (Nat → Nat)) → Nat
  | [] => 0
  | p :: L => p.1 + degL L
theorem mn_mul {D : FD} (F : Fld D) {a b : Nat → Nat} {da db : Nat} (ha : Mn D da a) (hb : Mn D db b) : Mn D (da + db) (pmul D (da + 1) a b) :=
  ⟨el_mul F _ _ _, (pmul_bd F hb.bd (da + 1)).mono (by omega), by rw [pmul_top F hb.bd, ha.top, hb.top, mul1 F (one_lt' F)]⟩
theorem mn_one {D : FD} (F : Fld D) : Mn D 0 pone := ⟨el_one F, pone_bd, rfl⟩
theorem prod_mn {D : FD} (F : Fld D) : ∀ (L : List (Nat × (Nat → Nat))), (∀ p, p ∈ L → Mn D p.1 p.2) → Mn D (degL L) (prodL D L)
  | [], _ => mn_one F
  | p :: L, h => mn_mul F (h p (List.mem_cons_self ..)) (prod_mn F L (fun r hr => h r (List.mem_cons_of_mem _ hr)))
theorem Fac.mn {D : FD} {L : List (Nat × (Nat → Nat))} (h : Fac D L) : ∀ p, p ∈ L → Mn D p.1 p.2 := fun p hp => (h p hp).mn
theorem irr_eq {D : FD} (hD : D ∈ fieldsL) {p r : Nat × (Nat → Nat)} (hp : Irr D p) (hr : Irr D r) (h : PD D p.2 r.2) : p = r := by
  have F := fld hD
  have h1 := hr.least p.1 p.2 hp.pos hp.mn h
  have h2 := pd_deg hD hr.mn hp.mn h
  have h3 : p.1 = r.1 := by
    rcases Nat.lt_or_ge p.1 r.1 with e | e
    · exact absurd (Or.inl e) h1
    · omega
  obtain ⟨m, b, eb, hm, e⟩ := h
  obtain ⟨db, hdb, e2⟩ := mn_quot hD hr.mn hp.mn eb hm e
  have e3 : db = 0 := by omega
  subst e3
  have e4 := mn_zero hdb
  subst e4
  have e5 : r.2 = p.2 := by rw [e, pmul_comm F eb hp.mn.el hm hp.mn.bd, pmul_one F hp.mn.el hp.mn.bd]
  exact Prod.ext h3 e5.symm
theorem irr_mem {D : FD} (hD : D ∈ fieldsL) {p : Nat × (Nat → Nat)} (hp : Irr D p) : ∀ (M : List (Nat × (Nat → Nat))), Fac D M → PD D p.2 (prodL D M) → p ∈ M
  | [], _, h => absurd h (not_pd_one (fld hD) hp.mn hp.pos)
  | r :: M, hM, h => by
    have hr := hM r (List.mem_cons_self ..)
    have hM' : Fac D M := fun s hs => hM s (List.mem_cons_of_mem _ hs)
    have hpm := prod_mn (fld hD) M hM'.mn
    rcases euclid hD hp hpm.el hpm.bd (r.1 + 1) r.2 hr.mn.el hr.mn.bd h with h1 | h1
    · rw [irr_eq hD hp hr h1]; exact List.mem_cons_self ..
    · exact List.mem_cons_of_mem _ (irr_mem hD hp M hM' h1)
theorem prod_app {D : FD} (F : Fld D) : ∀ (L M : List (Nat × (Nat → Nat))), (∀ p, p ∈ L → Mn D p.1 p.2) → (∀ p, p ∈ M → Mn D p.1 p.2) → prodL D (L ++ M) = pmul D (degL L + 1) (prodL D L) (prodL D M)
  | [], M, _, hM => by
    have hX := prod_mn F M hM
    show prodL D M = pmul D 1 pone (prodL D M)
    rw [pmul_comm F (el_one F) hX.el pone_bd hX.bd, pmul_one F hX.el hX.bd]
  | p :: L, M, h, hM => by
    have hL : ∀ r, r ∈ L → Mn D r.1 r.2 := fun r hr => h r (List.mem_cons_of_mem _ hr)
    have hX := prod_mn F L hL
    have hp := h p (List.mem_cons_self ..)
    show pmul D (p.1 + 1) p.2 (prodL D (L ++ M)) = pmul D (p.1 + degL L + 1) (pmul D (p.1 + 1) p.2 (prodL D L)) (prodL D M)
    rw [prod_app F L M hL hM, ← pmul_assoc F hX.bd (p.1 + 1) (p.1 + 1 + (degL L + 1)) (Nat.le_refl _)]
    exact pmul_to F _ (mn_mul F hp hX).bd (by omega)
theorem prod_mid {D : FD} (F : Fld D) (p : Nat × (Nat → Nat)) (s t : List (Nat × (Nat → Nat))) (hp : Mn D p.1 p.2) (hs : ∀ r, r ∈ s → Mn D r.1 r.2) (ht : ∀ r, r ∈ t → Mn D r.1 r.2) : prodL D (s ++ p :: t) = prodL D (p :: (s ++ t)) := by
  have hS := prod_mn F s hs
  have hT := prod_mn F t ht
  rw [prod_app F s (p :: t) hs (fun r hr => by rcases List.mem_cons.1 hr with rfl | hr; exact hp; exact ht r hr)]
  show pmul D (degL s + 1) (prodL D s) (pmul D (p.1 + 1) p.2 (prodL D t)) = pmul D (p.1 + 1) p.2 (prodL D (s ++ t))
  rw [prod_app F s t hs ht, ← pmul_assoc F hp.bd (degL s + 1) (degL s + 1 + (p.1 + 1)) (Nat.le_refl _), ← pmul_assoc F hS.bd (p.1 + 1) (degL s + 1 + (p.1 + 1)) (by omega)]
  rw [pmul_comm F hS.el hp.el hS.bd hp.bd]
/-- Parting is unique: another order, no more. -/
theorem fac_uniq {D : FD} (hD : D ∈ fieldsL) : ∀ (L M : List (Nat × (Nat → Nat))), Fac D L → Fac D M → prodL D L = prodL D M → L.Perm M
  | [], M, _, hM, h => by
    cases M with
    | nil => exact List.Perm.refl _
    | cons r M =>
      have hr := hM r (List.mem_cons_self ..)
      have hM' : Fac D M := fun s hs => hM s (List.mem_cons_of_mem _ hs)
      have hX := prod_mn (fld hD) M hM'.mn
      exfalso
      refine not_pd_one (fld hD) hr.mn hr.pos ?_
      have h : pone = pmul D (r.1 + 1) r.2 (prodL D M) := h
      rw [h]
      exact pd_mulr (fld hD) hr.mn.el hX.el hr.mn.bd hX.bd (PD.refl (fld hD) hr.mn.el)
  | p :: L, M, hL, hM, h => by
    have F := fld hD
    have hp := hL p (List.mem_cons_self ..)
    have hL' : Fac D L := fun s hs => hL s (List.mem_cons_of_mem _ hs)
    have hX := prod_mn F L hL'.mn
    have hpd : PD D p.2 (prodL D M) := by
      rw [← h]
      exact pd_mulr F hp.mn.el hX.el hp.mn.bd hX.bd (PD.refl F hp.mn.el)
    obtain ⟨s, t, rfl⟩ := List.append_of_mem (irr_mem hD hp M hM hpd)
    have hs : Fac D s := fun r hr => hM r (List.mem_append_left _ hr)
    have ht : Fac D t := fun r hr => hM r (List.mem_append_right _ (List.mem_cons_of_mem _ hr))
    have hst : Fac D (s ++ t) := fun r hr => by rcases List.mem_append.1 hr with h | h; exact hs r h; exact ht r h
    rw [prod_mid F p s t hp.mn hs.mn ht.mn] at h
    have hY := prod_mn F (s ++ t) hst.mn
    have h : pmul D (p.1 + 1) p.2 (prodL D L) = pmul D (p.1 + 1) p.2 (prodL D (s ++ t)) := h
    have e : prodL D L = prodL D (s ++ t) := by
      rw [pmul_comm F hp.mn.el hX.el hp.mn.bd hX.bd, pmul_comm F hp.mn.el hY.el hp.mn.bd hY.bd] at h
      have hN : pmul D (degL L + degL (s ++ t) + 1) (prodL D L) p.2 = pmul D (degL L + degL (s ++ t) + 1) (prodL D (s ++ t)) p.2 := by
        rw [pmul_to F p.2 hX.bd (by omega), pmul_to F p.2 hY.bd (by omega), h]
      exact (div_uniq F hp.mn.bd (by rw [hp.mn.top]; omega) hX.el hY.el (el_nil F) (el_nil F) (hX.bd.mono (by omega : degL L + 1 ≤ degL L + degL (s ++ t) + 1)) (hY.bd.mono (by omega)) (fun _ _ => rfl) (fun _ _ => rfl) (by rw [hN])).1
    exact (List.Perm.cons p (fac_uniq hD L (s ++ t) hL' hst e)).trans List.perm_middle.symm
theorem pre_fac {D : FD} (hD : D ∈ fieldsL) : ∀ (L : List (Nat × (Nat → Nat))) (a0 : Nat → Nat) (da : Nat), Mn D da a0 → Pre D L a0 pone → Fac D L ∧ prodL D L = a0
  | [], a0, _, _, h => ⟨fun p hp => by simp at hp, (show a0 = pone from h).symm⟩
  | r :: L, a0, da, h0, ⟨h1, m, b, h2, h3, h4, h5⟩ => by
    have F := fld hD
    obtain ⟨db, h6, h7⟩ := mn_quot hD h0 h1.mn h2 h3 h4
    have ih := pre_fac hD L b db h6 h5
    refine ⟨fun p hp => ?_, ?_⟩
    · rcases List.mem_cons.1 hp with rfl | hp
      · exact ⟨h1.mn, h1.pos, PD.refl F h1.mn.el, fun e y he hy hd hb => h1.least e y he hy (PD.trans F h1.dv hd) hb⟩
      · exact ih.1 p hp
    · show pmul D (r.1 + 1) r.2 (prodL D L) = a0
      rw [ih.2, h4, pmul_comm F h1.mn.el h2 h1.mn.bd h3]
theorem irr_pre {D : FD} (hD : D ∈ fieldsL) {p : Nat × (Nat → Nat)} (h : Irr D p) : Pre D [p] p.2 pone := by
  have F := fld hD
  refine ⟨h, 1, pone, el_one F, pone_bd, ?_, rfl⟩
  rw [pmul_comm F (el_one F) h.mn.el pone_bd h.mn.bd, pmul_one F h.mn.el h.mn.bd]
end Go.Proofs.Ytpccbiinfdppnad
