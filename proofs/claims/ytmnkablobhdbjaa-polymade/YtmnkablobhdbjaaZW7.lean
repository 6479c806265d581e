/- Texts of ours, one behind the other: W7 V9 V10. -/
import Derived.Test.YtmnkablobhdbjaaZU22
import Derived.Test.YtmnkablobhdbjaaZV7
import Derived.Deep.CutBlock
import Derived.Deep.DeepCutAuto
/- Lists of numbers that a call makes for itself: others' numbers laid behind them (append(v, l...)); a copy, as a plain list. -/
namespace Go.Proofs.Ytmnkablobhdbjaa
open Go.RowKit

/-- The first n numbers of z, as a list. -/
def zl (n : Nat) (z : Nat → Int) : List Int := (List.range n).map z
theorem zl_len (n : Nat) (z : Nat → Int) : (zl n z).length = n := by simp [zl]
theorem zl_get (n : Nat) (z : Nat → Int) (j : Nat) (hj : j < n) : (zl n z)[j]? = some (z j) := by
  unfold zl
  rw [List.getElem?_map, List.getElem?_range hj]; rfl
theorem zl_getD (n : Nat) (z : Nat → Int) (j : Nat) (hj : j < n) : (zl n z).getD j 0 = z j := by
  rw [List.getD_eq_getElem?_getD, zl_get n z j hj]; rfl
theorem zl_congr {n : Nat} {z y : Nat → Int} (h : ∀ j, j < n → z j = y j) : zl n z = zl n y := by
  unfold zl
  exact List.map_congr_left (fun j hj => h j (List.mem_range.1 hj))
theorem zl_succ (n : Nat) (z : Nat → Int) : zl (n + 1) z = zl n z ++ [z n] := by
  unfold zl
  rw [List.range_succ, List.map_append]; rfl

/-- 'append(v, l...)', v the call's own list. -/
theorem append_ints {ops : Array Oper} {rest : List Oper} {o : Oper} {a : Act} {w : World} {Q : Exit → Act → World → Prop} (hgd : o.guard = none) (s x : Operand)
    (ho : o.op = .call { callee := .builtin .append, args := #[s, x], argTypes := #[26, 26] })
    (base : Nat) (v : Value) (l : List Int) (hs : a.eval s = v) (hown : OwnI base v l w) (ao : Option Addr) (n sc : Nat) (z : Nat → Int) (hx : a.eval x = .slice ao n sc) (hS : SlZ ao n z w) (hnil : ao = none → sc = 0)
    (hn : l.length + n ≤ 1000000) (hbase : base ≤ w.heap.size)
    (h : ∀ v' w', OwnI base v' (l ++ zl n z) w' → w.grownBy w' v.ownBlock → wpList Try.prog ops Q rest (a.put o.dst v') w') : wpList Try.prog ops Q (o :: rest) a w := by
  obtain ⟨i0, hi, hz0, hz1, hz2⟩ := info_parts Try.infoInt
  cases ao with
  | none =>
    have h0 : n = 0 := by
      rcases Nat.eq_zero_or_pos n with e | e
      · exact e
      · obtain ⟨b, off, h1, _⟩ := hS 0 e
        cases h1
    subst h0
    rw [hnil rfl] at hx
    refine wpList_append_own_none hgd s x 26 ho base 3 i0 1 Try.underlying26 hi v l.length _ hs hown hx ?_
    exact h v w (by have e : l ++ zl 0 z = l := by simp [zl]
                    rw [e]; exact hown) (grown_refl _ _)
  | some ad =>
    refine wpList_append_own _ hgd s x 26 ho base 3 i0 (.int .i64 0) 1 8 Try.underlying26 hi hz0 hz1 hz2 rfl (by decide) v l.length _ hs hown ad n sc ((zl n z).map (Value.int .i64)) hx (by rw [List.length_map, zl_len]; omega) ?_ ?_ ?_ ?_ hbase ?_
    · intro j u hj
      have hj' : j < n := by
        have := (List.getElem?_eq_some_iff.1 hj).1
        rwa [List.length_map, zl_len] at this
      rw [List.getElem?_map, zl_get n z j hj'] at hj
      cases hj
      obtain ⟨b, off, e, hc⟩ := hS j hj'
      cases e
      rw [add_off]; exact hc
    · intro u hu
      obtain ⟨k, _, rfl⟩ := List.mem_map.1 hu
      rfl
    · unfold maxLen; omega
    · omega
    · intro v' w' hown' hgrow _
      refine h v' w' ?_ hgrow
      unfold OwnI
      rw [List.map_append, List.length_append, zl_len]
      exact hown'

set_option maxHeartbeats 1000000 in
set_option maxRecDepth 100000 in
theorem copyI_any {ao : Option Addr} {n cap : Nat} {z : Nat → Int} {w : World} (h : SlZ ao n z w) (hn : n ≤ 1000000) (hnil : ao = none → cap = 0) (hl : LtB ao w.heap.size) :
    Calls Try.prog 79 #[.slice ao n cap] w fun e w' => ∃ v, e = .returned v ∧ OwnI w.heap.size v (zl n z) w' ∧ Below w.heap.size w w' := by
  have HS : Hid (SlZ ao n z w ∧ (ao = none → cap = 0) ∧ LtB ao w.heap.size) := ⟨h, hnil, hl⟩
  clear h hnil hl
  go_enter Try.func79, Try.ntmps79
  go_wp2_with (at_builtin; refine append_ints rfl _ _ rfl w.heap.size _ [] rfl (own_empty (two_new _) (Nat.le_refl _)) ao n cap z rfl (HS.out.1.below ((Below.refl _ _).alloc (Nat.le_refl _) _) HS.out.2.2) HS.out.2.1 (by simpa using hn) (by simp) ?_; intro v' w' hown hgrow)
  go_ret
  exact ⟨_, rfl, hown, ((Below.refl _ _).alloc (Nat.le_refl _) _).grown hgrow (by simp) (by intro k hk; have hk : some w.heap.size = some k := hk; cases hk; exact Nat.le_refl _)⟩

/-- Numbers from 0 on: a polynomial's row. -/
theorem OwnI.ownC {base : Nat} {v : Value} {l : List Int} {w : World} (h : OwnI base v l w) (c : Nat → Nat) (hc : ∀ k, k < l.length → l.getD k 0 = (c k : Nat)) : OwnP base v l.length c w := by
  rcases h.2 with ⟨h1, h2⟩ | ⟨g, cap, cur, hv, hg, hh, hle, hcm, hsz, htake⟩
  · exact ⟨none, 0, by rw [h1, h2], by omega, by omega, fun x hx => (by cases hx), fun x hx => (by cases hx), fun _ => rfl, fun h0 => absurd h0 (by omega)⟩
  · refine ⟨_, cap, hv, hle, by unfold maxLen at hcm; omega, fun x hx => (by cases hx; exact hg), fun x hx => (by cases hx; exact lt_of_block hh), fun e => (by cases e), fun _ => ⟨g, rfl, cap, fun k => (cur[k]?).getD (.int .i64 0), ⟨cur, hh, by omega, fun k hk => ?_⟩, hle, fun k hk => ?_⟩⟩
    · show _ = some (Option.getD _ _)
      rw [Array.getElem?_eq_getElem (by omega)]; rfl
    · have h3 : (cur.toList.take (l.length * 1))[k]? = (l.map (Value.int .i64))[k]? := by rw [htake]
      rw [List.getElem?_take, if_pos (by omega), List.getElem?_map, List.getElem?_eq_getElem hk] at h3
      show (cur[k]?).getD _ = _
      have h4 := hc k hk
      rw [List.getD_eq_getElem?_getD, List.getElem?_eq_getElem hk] at h4
      rw [← Array.getElem?_toList, h3]
      show Value.int .i64 _ = _
      rw [← h4]; rfl
theorem OwnI.block {base : Nat} {v : Value} {l : List Int} {w : World} (h : OwnI base v l w) : ∀ k, v.ownBlock = some k → base ≤ k := fun k hk => (h.lt k hk).1
theorem OwnP.block {base n : Nat} {v : Value} {c : Nat → Nat} {w : World} (h : OwnP base v n c w) : ∀ k, v.ownBlock = some k → base ≤ k := by
  obtain ⟨ao, cap, rfl, _, _, hg, _⟩ := h
  intro k hk
  cases ao with
  | none => cases hk
  | some x =>
    have hk : some x.block = some k := hk
    cases hk
    exact hg x rfl

/-- What lies elsewhere stays where one block is written. -/
theorem Elm.apart {v : Value} {p : Nat × (Nat → Nat)} {w w' : World} {g : Nat} (h : Elm v p w) (hg : w.grownBy w' (some g)) (hne : v.ownBlock ≠ some g) : Elm v p w' := by
  obtain ⟨g', cap, e, h1, h2, hr⟩ := h
  refine ⟨g', cap, e, h1, h2, hr.other (hg.block g' hr.lt ?_)⟩
  intro e'
  rw [e] at hne
  exact hne e'
/-- A list of lists, none of which lies in block g. -/
def LLx (g base : Nat) (v : Value) (L : List (Nat × (Nat → Nat))) (w : World) : Prop := ∃ l, OwnV base v l w ∧ Elms l L w ∧ ∀ u ∈ l, u.ownBlock ≠ some g
theorem LLx.lls {g base : Nat} {v : Value} {L : List (Nat × (Nat → Nat))} {w : World} (h : LLx g base v L w) : LLs base v L w := by
  obtain ⟨l, h1, h2, _⟩ := h
  exact ⟨l, h1, h2⟩
theorem LLx.below {g base B : Nat} {v : Value} {L : List (Nat × (Nat → Nat))} {w w' : World} (h : LLx g base v L w) (hb : Below B w w') (hB : w.heap.size ≤ B) : LLx g base v L w' := by
  obtain ⟨l, h1, h2, h3⟩ := h
  exact ⟨l, h1.below hb hB, h2.below hb hB, h3⟩
theorem LLx.apart {g base N : Nat} {c : Nat → Nat} {v : Value} {L : List (Nat × (Nat → Nat))} {w w' : World} (h : LLx g base v L w) (hr : Row g N c w) (hg : w.grownBy w' (some g)) : LLx g base v L w' := by
  obtain ⟨l, h1, h2, h3⟩ := h
  refine ⟨l, World.ownsRow.kept h1 hg (Or.inr fun e => hr.apart h1 e.symm), ⟨h2.1, fun j u p hu hp => (h2.2 j u p hu hp).apart hg (h3 u (List.mem_of_getElem? hu))⟩, h3⟩
/-- A block that is not there yet holds none of them. -/
theorem LLs.fresh {base : Nat} {v : Value} {L : List (Nat × (Nat → Nat))} {w : World} (h : LLs base v L w) : LLx w.heap.size base v L w := by
  obtain ⟨l, h1, h2⟩ := h
  refine ⟨l, h1, h2, fun u hu => ?_⟩
  obtain ⟨j, hj, e⟩ := List.getElem_of_mem hu
  have hj2 : j < L.length := by rw [← h2.1]; exact hj
  obtain ⟨g', cap, e', _, _, hr⟩ := h2.2 j u L[j] (by rw [List.getElem?_eq_getElem hj, e]) (List.getElem?_eq_getElem hj2)
  rw [e']
  intro x
  have x : some g' = some w.heap.size := x
  cases x
  have := hr.lt
  omega
end Go.Proofs.Ytmnkablobhdbjaa

/- The reference's polynomials: the next list (Next), which is ahead (Below). -/
namespace Go.Proofs.Ytmnkablobhdbjaa
open Go.RowKit

set_option maxHeartbeats 2000000 in
set_option maxRecDepth 100000 in
theorem rnext_any {D : FD} (hD : D ∈ fieldsL) {g d ca : Nat} {c : Nat → Nat} {w : World} (hc : Mn D d c) (hd : d ≤ 1000) (hr : Row g d c w) :
    Calls Try.prog 104 #[.slice (some ⟨g, 0, none⟩) d ca, .int .i64 D.q] w fun e w' => w.grownBy w' (some g) ∧
      ((e = .returned (.bool true) ∧ ∃ c', Row g d c' w' ∧ Mn D d c' ∧ Aft D d c d c') ∨ (e = .returned (.bool false) ∧ (∀ k, 0 ≤ k → k < d → c k = D.q - 1) ∧ Row g d pnil w')) := by
  have HC : Hid (D ∈ fieldsL ∧ Mn D d c ∧ Row g d c w) := ⟨hD, hc, hr⟩
  have h64 := (fld hD).q64
  clear hD hc hr
  go_enter Try.func104, Try.ntmps104
  go_wp2
  go_loopw [5] (fun i wr => ∃ s : Nat, s ≤ d ∧ i = .int .i64 ((s : Int) - 1) ∧ Hid (∀ k, s ≤ k → k < d → c k = D.q - 1) ∧ Row g d (cnt c d s) wr ∧ w.grownBy wr (some g)) (fun i _ => (intOf i + 1).toNat)
  case atStart => exact ⟨d, Nat.le_refl _, by go_num, fun k h1 h2 => by omega, by rw [cnt_all]; exact HC.out.2.2, grown_refl _ _⟩
  case round =>
    obtain ⟨s, hs, hi, H9, hrow, hgr⟩ := hrel
    have HG : Hid (Row g d (cnt c d s) wr ∧ w.grownBy wr (some g)) := ⟨hrow, hgr⟩
    clear hrow hgr
    cases s with
    | succ s =>
      have hi' : u5 = .int .i64 (s : Int) := by rw [hi]; go_num
      clear hi
      subst hi'
      obtain ⟨x, hx⟩ : ∃ x, x = c s := ⟨_, rfl⟩
      have hxq : x < D.q := by rw [hx]; exact HC.out.2.1.el s
      have hcl : wr.cell? ⟨g, s, none⟩ = some (.int .i64 (x : Nat)) := by rw [HG.out.1.cell s (by omega), cnt_at, hx]
      have hfr := HG.out.1.free s
      have hib : (s : Int) < (d : Int) := by omega
      have HX : Hid (x = c s) := hx
      clear hx
      have HR : Hid (Row g d (cup c d s) (wr.setCell ⟨g, s, none⟩ (.int .i64 ((x : Int) + 1)))) := by
        have h := HG.out.1.store s (x + 1) (d := cup c d s) (fun j _ => by unfold cup; rw [HX.out])
        rw [Int.natCast_add] at h; exact h
      by_cases hlt : x + 1 < D.q
      · go_wp2
        go_ret
        have hm := cup_aft (fld HC.out.1) HC.out.2.1 (by omega) (by rw [← HX.out]; exact hlt) H9.out
        exact ⟨grown_set HG.out.2 _ _, Or.inl ⟨rfl, cup c d s, HR.out, hm.1, hm.2⟩⟩
      · have HZ : Hid (∀ k, s ≤ k → k < d → c k = D.q - 1) := fun k h1 h2 => by
          by_cases e : k = s
          · rw [e, ← HX.out]; omega
          · exact H9.out k (by omega) h2
        go_wp2
        go_roundw
        case rel => exact ⟨s, by omega, by go_num, HZ.out, HR.out.store s 0 (fun j _ => cnt_step c (by omega) j), grown_set (grown_set HG.out.2 _ _) _ _⟩
        case measure => simp [intOf]
    | zero =>
      have hi' : u5 = .int .i64 (-1) := by rw [hi]; rfl
      clear hi
      subst hi'
      go_wp2
      go_ret
      exact ⟨HG.out.2, Or.inr ⟨rfl, H9.out, HG.out.1.congr (fun k hk => by unfold cnt; rw [if_pos (by omega)]; rfl)⟩⟩

set_option maxHeartbeats 2000000 in
set_option maxRecDepth 100000 in
/-- Of two that end with 1, the first not ahead of the second. -/
theorem rbelow_any {D : FD} {ao bo : Option Addr} {d ca cb : Nat} {x y : Nat → Nat} {w : World} (hx : Mn D d x) (hy : Mn D d y) (hd : d ≤ 1000) (hX : Sl ao (d + 1) x w) (hY : Sl bo (d + 1) y w) (hn : ¬ dnum D.q x d < dnum D.q y d) :
    Calls Try.prog 105 #[.slice ao (d + 1) ca, .slice bo (d + 1) cb] w fun e w' => e = .returned (.bool false) ∧ ∃ n, w' = w.drewN n := by
  have HC : Hid (Mn D d x ∧ Mn D d y ∧ Sl ao (d + 1) x w ∧ Sl bo (d + 1) y w ∧ ¬ dnum D.q x d < dnum D.q y d) := ⟨hx, hy, hX, hY, hn⟩
  clear hx hy hX hY hn
  go_enter Try.func105, Try.ntmps105
  go_wp2
  go_loopw [5] (fun i wr => ∃ r : Nat, r ≤ d + 1 ∧ i = .int .i64 r ∧ Hid (∀ k, k < r → x k = y k) ∧ ∃ n, wr = w.drewN n) (fun i _ => d + 1 - (intOf i).toNat)
  case atStart => exact ⟨0, by omega, rfl, fun k hk => by omega, 0, rfl⟩
  case round =>
    obtain ⟨r, hr, rfl, HE, n, rfl⟩ := hrel
    by_cases hlt : r < d + 1
    · obtain ⟨b, off, rfl, hc⟩ := HC.out.2.2.1 r hlt
      obtain ⟨b', off', rfl, hc'⟩ := HC.out.2.2.2.1 r hlt
      have hib : (r : Int) < (d : Int) + 1 := by omega
      obtain ⟨u, hu⟩ : ∃ u, u = x r := ⟨_, rfl⟩
      obtain ⟨v, hv⟩ : ∃ v, v = y r := ⟨_, rfl⟩
      rw [← hu] at hc
      rw [← hv] at hc'
      have HU : Hid (u = x r ∧ v = y r) := ⟨hu, hv⟩
      clear hu hv
      by_cases he : u = v
      · have hb : ((u : Int) != (v : Int)) = false := by rw [he]; simp
        have HE2 : Hid (∀ k, k < r + 1 → x k = y k) := fun k hk => if e : k = r then by rw [e, ← HU.out.1, ← HU.out.2, he] else HE.out k (by omega)
        clear he
        go_wp2
        go_quiet (fail)
        go_wp2
        go_roundw
        case rel => exact ⟨r + 1, by omega, by go_num, HE2.out, _, rfl⟩
        case measure => simp [intOf]; omega
      · have hb : ((u : Int) != (v : Int)) = true := by rw [bne_iff_ne]; omega
        have hlv : ¬ (u : Int) < (v : Int) := by
          intro h
          have hrd : r < d := by
            rcases Nat.lt_or_ge r d with e | e
            · exact e
            · have e : r = d := by omega
              exact absurd (by rw [HU.out.1, HU.out.2, e, HC.out.1.top, HC.out.2.1.top]) he
          have h2 := dnum_lex (q := D.q) (c := x) (e := y) (j := r) HE.out (by rw [← HU.out.1, ← HU.out.2]; omega) (d - (r + 1)) (fun i _ => HC.out.1.el i)
          rw [show r + 1 + (d - (r + 1)) = d from by omega] at h2
          exact HC.out.2.2.2.2 h2
        have hlb : decide ((u : Int) < (v : Int)) = false := decide_eq_false hlv
        clear he
        go_wp2
        go_quiet (fail)
        go_wp2
        go_quiet (fail)
        go_wp2
        go_ret
        exact ⟨ret_bool (by first | rfl | exact hlb | (simp; omega)), _, by rw [World.drewN_drewN, World.drewN_drewN]⟩
    · go_wp2
      go_ret
      exact ⟨ret_bool (by first | rfl | simp), _, rfl⟩
end Go.Proofs.Ytmnkablobhdbjaa

/- The reference's polynomials: parts (Factors). -/
namespace Go.Proofs.Ytmnkablobhdbjaa
open Go.RowKit Go.Sort

theorem rdiv_found {D : FD} (hD : D ∈ fieldsL) (gen gm cm : Nat) {w : World} {va vd : Value} {a x : Nat → Nat} {da dx : Nat} (ha : Mn D da a) (hx : Mn D dx x) (hva : Elm va (da, a) w) (hvd : Elm vd (dx, x) w) (h1 : da ≤ 500) (h2 : dx ≤ 500) (hM : ModAt D (.slice (some ⟨gm, 0, none⟩) (D.m + 1) cm) D.md w) :
    Calls Try.prog 52 #[.agg #[.int .i64 D.q, .int .i64 D.p, .int .i64 D.m, .int .i64 gen, .slice (some ⟨gm, 0, none⟩) (D.m + 1) cm], va, vd] w fun e w' => ∃ vq vr, e = .returned (.tuple #[vq, vr]) ∧ Below w.heap.size w w' ∧
      ((∃ db b ro rc, vr = .slice ro 0 rc ∧ Elm vq (db, b) w' ∧ (∀ k, vq.ownBlock = some k → w.heap.size ≤ k) ∧ Mn D db b ∧ da = db + dx ∧ a = pmul D (db + 1) b x) ∨ (¬ PD D x a ∧ ∃ ro rn rc, vr = .slice ro (rn + 1) rc)) := by
  obtain ⟨ao, ca, rfl, k1, k2, hsa, hla, hna⟩ := hva.sl
  obtain ⟨xo, cx, rfl, k3, k4, hsx, hlx, hnx⟩ := hvd.sl
  refine (rpdiv_any hD gen gm cm (show da + 1 ≤ 1000 by omega) (show dx + 1 ≤ 1000 by omega) ha.el hx.el ha.bd hx.bd hsa hsx hla hlx k1 k2 hna k3 k4 hnx hM dx (hx.trd.dgn (Nat.le_refl _))).mono ?_
  rintro e w' ⟨vq, vr, rfl, hq, hr, hb⟩
  refine ⟨vq, vr, rfl, hb, ?_⟩
  rcases div_mn hD ha hx with ⟨_, db, h3, h4, h5, h6, h7⟩ | ⟨h3, h4⟩
  · rw [h5] at hq
    rw [h7] at hr
    obtain ⟨ro, rc, hv, _⟩ := hr.open
    exact Or.inl ⟨db, _, ro, rc, hv, hq.elm, hq.block, h3, h4, by rw [show db + 1 = da + 1 - dx from by omega]; exact h6⟩
  · obtain ⟨ro, rc, hv, _⟩ := hr.open
    exact Or.inr ⟨h3, ro, _, rc, by rw [hv, show dgn (divR D x dx (D.iv (x dx)) (da + 1 - dx) a) (da + 1) = (dgn (divR D x dx (D.iv (x dx)) (da + 1 - dx) a) (da + 1) - 1) + 1 from by omega]⟩

theorem pre_deg {D : FD} (hD : D ∈ fieldsL) : ∀ {L : List (Nat × (Nat → Nat))} {a0 a : Nat → Nat} {da : Nat}, Mn D da a0 → Pre D L a0 a → ∀ p, p ∈ L → p.1 ≤ da
  | [], _, _, _, _, _, p, hp => by simp at hp
  | r :: L, a0, a, da, h0, ⟨h1, m, b, h2, h3, h4, h5⟩, p, hp => by
    obtain ⟨db, h6, h7⟩ := mn_quot hD h0 h1.mn h2 h3 h4
    rcases List.mem_cons.1 hp with rfl | hp
    · omega
    · have := pre_deg hD h6 h5 p hp
      omega

theorem pre_length {D : FD} (hD : D ∈ fieldsL) : ∀ {L : List (Nat × (Nat → Nat))} {a0 a : Nat → Nat} {da : Nat}, Mn D da a0 → Pre D L a0 a → L.length ≤ da
  | [], _, _, _, _, _ => Nat.zero_le _
  | r :: L, a0, a, da, h0, ⟨h1, m, b, h2, h3, h4, h5⟩ => by
    obtain ⟨db, h6, h7⟩ := mn_quot hD h0 h1.mn h2 h3 h4
    have := pre_length hD h6 h5
    have := h1.pos
    simp only [List.length_cons]
    omega

/-- A copy of d coefficients with 1 behind them. -/
theorem tryX_new {D : FD} {base d : Nat} {v : Value} {x : Nat → Nat} {w : World} (h : OwnI base v ((zl d fun j => (x j : Nat)) ++ [1]) w) (hx : Mn D d x) : Elm v (d, x) w := by
  have h1 : ((zl d fun j => ((x j : Nat) : Int)) ++ [1]).length = d + 1 := by rw [List.length_append, zl_len]; rfl
  have h2 := h.ownC x (fun k hk => by
    rw [h1] at hk
    rw [List.getD_eq_getElem?_getD]
    by_cases e : k < d
    · rw [List.getElem?_append_left (by rw [zl_len]; exact e), zl_get d _ k e]; rfl
    · have e : k = d := by omega
      subst e
      rw [List.getElem?_append_right (by rw [zl_len]; omega), zl_len, Nat.sub_self, hx.top]; rfl)
  rw [h1] at h2
  exact h2.elm

/-- What is left, while lists of d numbers are tried: how many steps at the most. -/
def tryM (D : FD) (d da : Nat) (x : Nat → Nat) : Nat := 1 + da * D.q ^ d + (D.q ^ d - dnum D.q x d)
theorem tryM_found {D : FD} (F : Fld D) {d da db : Nat} {x : Nat → Nat} (h : db < da) : tryM D d db x < tryM D d da x := by
  unfold tryM
  have h1 : (db + 1) * D.q ^ d ≤ da * D.q ^ d := Nat.mul_le_mul_right _ h
  have h2 : 0 < D.q ^ d := Nat.pow_pos (by have := F.q2; omega)
  rw [Nat.add_mul, Nat.one_mul] at h1
  omega
theorem tryM_next {D : FD} {d da : Nat} {x y : Nat → Nat} (_hx : Mn D d x) (hy : Mn D d y) (h : Aft D d x d y) : tryM D d da y < tryM D d da x := by
  unfold tryM
  have h1 := dnum_lt (q := D.q) (c := y) d (fun i _ => hy.el i)
  rcases h with ⟨_, h⟩ | ⟨h, _⟩ <;> omega
theorem tryM_pos (D : FD) (d da : Nat) (x : Nat → Nat) : 0 < tryM D d da x := by unfold tryM; omega

/-- While lists of d numbers are tried: what is left, what is tried next, if anything. -/
def TrySt (D : FD) (gen gm cm : Nat) (a0 : Nat → Nat) (g d : Nat) (w : World) (k : Nat) (va vo vm : Value) (wi : World) : Prop :=
  ∃ (da : Nat) (a : Nat → Nat) (L : List (Nat × (Nat → Nat))), L.length + da ≤ 127 ∧ g < wi.heap.size ∧ Hid (Elm va (da, a) wi ∧ va.ownBlock ≠ some g ∧ LLx g (w.heap.size + 1) vo L wi ∧ Below w.heap.size w wi ∧ Box w.heap.size D gen (.slice (some ⟨gm, 0, none⟩) (D.m + 1) cm) wi) ∧
    ((vm = .bool true ∧ ∃ x, Hid (Row g d x wi ∧ PSt D a0 a x L da d ∧ k = tryM D d da x)) ∨ (vm = .bool false ∧ Hid (PSt D a0 a (xpow (d + 1)) L da (d + 1))))
end Go.Proofs.Ytmnkablobhdbjaa
