/- Texts of ours, one behind the other: U21 U22 W7 V9 V10 N7. -/
import Derived.Test.YtillljojdnofgaaZV7
import Derived.WalkMore
import Derived.ScopeJumps
import Derived.Deep.LoopGhost
import Derived.Deep.CutBlock
import Derived.Deep.DeepCutAuto
/- The program's parts of a polynomial: the walk (parts). -/
namespace Go.Proofs.Ytillljojdnofgaa
open Go.RowKit

theorem OwnV.open_ge {base : Nat} {v : Value} {l : List Value} {w : World} (h : OwnV base v l w) : ∀ k, v.ownBlock = some k → base ≤ k := by
  intro k hk
  rcases h.2 with ⟨h1, _⟩ | ⟨g, cap, cur, hv, hg, _⟩
  · rw [h1] at hk; cases hk
  · rw [hv] at hk
    have hk : some g = some k := hk
    cases hk; exact hg

end Go.Proofs.Ytillljojdnofgaa

/- The program's polynomials: the calls that are listed: Through, Factors, Irreducible. -/
namespace Go.Proofs.Ytillljojdnofgaa
open Go.RowKit

end Go.Proofs.Ytillljojdnofgaa

/- Lists of numbers that a call makes for itself: others' numbers laid behind them (append(v, l...)); a copy, as a plain list. -/
namespace Go.Proofs.Ytillljojdnofgaa
open Go.RowKit

/-- The first n numbers of z, as a list. -/
def zl (n : Nat) (z : Nat → Int) : List Int := (List.range n).map z
theorem zl_len (n : Nat) (z : Nat → Int) : (zl n z).length = n := by simp [zl]
theorem zl_get (n : Nat) (z : Nat → Int) (j : Nat) (hj : j < n) : (zl n z)[j]? = some (z j) := by
  unfold zl
  rw [List.getElem?_map, List.getElem?_range hj]; rfl
theorem zl_getD (n : Nat) (z : Nat → Int) (j : Nat) (hj : j < n) : (zl n z).getD j 0 = z j := by
  rw [List.getD_eq_getElem?_getD, zl_get n z j hj]; rfl
theorem zl_congr {n : Nat} {z y : Nat → Int} (h : ∀ j, j < n → z j = y j) : zl n z = zl n y := by
  unfold zl
  exact List.map_congr_left (fun j hj => h j (List.mem_range.1 hj))
theorem zl_succ (n : Nat) (z : Nat → Int) : zl (n + 1) z = zl n z ++ [z n] := by
  unfold zl
  rw [List.range_succ, List.map_append]; rfl

/-- 'append(v, l...)', v the call's own list. -/
theorem append_ints {ops : Array Oper} {rest : List Oper} {o : Oper} {a : Act} {w : World} {Q : Exit → Act → World → Prop} (hgd : o.guard = none) (s x : Operand)
    (ho : o.op = .call { callee := .builtin .append, args := #[s, x], argTypes := #[22, 22] })
    (base : Nat) (v : Value) (l : List Int) (hs : a.eval s = v) (hown : OwnI base v l w) (ao : Option Addr) (n sc : Nat) (z : Nat → Int) (hx : a.eval x = .slice ao n sc) (hS : SlZ ao n z w) (hnil : ao = none → sc = 0)
    (hn : l.length + n ≤ 1000000) (hbase : base ≤ w.heap.size)
    (h : ∀ v' w', OwnI base v' (l ++ zl n z) w' → w.grownBy w' v.ownBlock → wpList Try.prog ops Q rest (a.put o.dst v') w') : wpList Try.prog ops Q (o :: rest) a w := by
  obtain ⟨i0, hi, hz0, hz1, hz2⟩ := info_parts Try.infoInt
  cases ao with
  | none =>
    have h0 : n = 0 := by
      rcases Nat.eq_zero_or_pos n with e | e
      · exact e
      · obtain ⟨b, off, h1, _⟩ := hS 0 e
        cases h1
    subst h0
    rw [hnil rfl] at hx
    refine wpList_append_own_none hgd s x 22 ho base 3 i0 1 Try.underlying22 hi v l.length _ hs hown hx ?_
    exact h v w (by have e : l ++ zl 0 z = l := by simp [zl]
                    rw [e]; exact hown) (grown_refl _ _)
  | some ad =>
    refine wpList_append_own _ hgd s x 22 ho base 3 i0 (.int .i64 0) 1 8 Try.underlying22 hi hz0 hz1 hz2 rfl (by decide) v l.length _ hs hown ad n sc ((zl n z).map (Value.int .i64)) hx (by rw [List.length_map, zl_len]; omega) ?_ ?_ ?_ ?_ hbase ?_
    · intro j u hj
      have hj' : j < n := by
        have := (List.getElem?_eq_some_iff.1 hj).1
        rwa [List.length_map, zl_len] at this
      rw [List.getElem?_map, zl_get n z j hj'] at hj
      cases hj
      obtain ⟨b, off, e, hc⟩ := hS j hj'
      cases e
      rw [add_off]; exact hc
    · intro u hu
      obtain ⟨k, _, rfl⟩ := List.mem_map.1 hu
      rfl
    · unfold maxLen; omega
    · omega
    · intro v' w' hown' hgrow _
      refine h v' w' ?_ hgrow
      unfold OwnI
      rw [List.map_append, List.length_append, zl_len]
      exact hown'

set_option maxHeartbeats 1000000 in
set_option maxRecDepth 100000 in
theorem copyI_any {ao : Option Addr} {n cap : Nat} {z : Nat → Int} {w : World} (h : SlZ ao n z w) (hn : n ≤ 1000000) (hnil : ao = none → cap = 0) (hl : LtB ao w.heap.size) :
    Calls Try.prog 43 #[.slice ao n cap] w fun e w' => ∃ v, e = .returned v ∧ OwnI w.heap.size v (zl n z) w' ∧ Below w.heap.size w w' := by
  have HS : Hid (SlZ ao n z w ∧ (ao = none → cap = 0) ∧ LtB ao w.heap.size) := ⟨h, hnil, hl⟩
  clear h hnil hl
  go_enter Try.func43, Try.ntmps43
  go_wp2_with (at_builtin; refine append_ints rfl _ _ rfl w.heap.size _ [] rfl (own_empty (two_new _) (Nat.le_refl _)) ao n cap z rfl (HS.out.1.below ((Below.refl _ _).alloc (Nat.le_refl _) _) HS.out.2.2) HS.out.2.1 (by simpa using hn) (by simp) ?_; intro v' w' hown hgrow)
  go_ret
  exact ⟨_, rfl, hown, ((Below.refl _ _).alloc (Nat.le_refl _) _).grown hgrow (by simp) (by intro k hk; have hk : some w.heap.size = some k := hk; cases hk; exact Nat.le_refl _)⟩

theorem OwnI.block {base : Nat} {v : Value} {l : List Int} {w : World} (h : OwnI base v l w) : ∀ k, v.ownBlock = some k → base ≤ k := fun k hk => (h.lt k hk).1
end Go.Proofs.Ytillljojdnofgaa

/- The reference's polynomials: the next list (Next), which is ahead (Below). -/
namespace Go.Proofs.Ytillljojdnofgaa
open Go.RowKit

set_option maxHeartbeats 2000000 in
set_option maxRecDepth 100000 in
theorem rnext_any {D : FD} (hD : D ∈ fieldsL) {g d ca : Nat} {c : Nat → Nat} {w : World} (hc : Mn D d c) (hd : d ≤ 1000) (hr : Row g d c w) :
    Calls Try.prog 45 #[.slice (some ⟨g, 0, none⟩) d ca, .int .i64 D.q] w fun e w' => w.grownBy w' (some g) ∧
      ((e = .returned (.bool true) ∧ ∃ c', Row g d c' w' ∧ Mn D d c' ∧ Aft D d c d c') ∨ (e = .returned (.bool false) ∧ (∀ k, 0 ≤ k → k < d → c k = D.q - 1) ∧ Row g d pnil w')) := by
  have HC : Hid (D ∈ fieldsL ∧ Mn D d c ∧ Row g d c w) := ⟨hD, hc, hr⟩
  have h64 := (fld hD).q64
  clear hD hc hr
  go_enter Try.func45, Try.ntmps45
  go_wp2
  go_loopw [5] (fun i wr => ∃ s : Nat, s ≤ d ∧ i = .int .i64 ((s : Int) - 1) ∧ Hid (∀ k, s ≤ k → k < d → c k = D.q - 1) ∧ Row g d (cnt c d s) wr ∧ w.grownBy wr (some g)) (fun i _ => (intOf i + 1).toNat)
  case atStart => exact ⟨d, Nat.le_refl _, by go_num, fun k h1 h2 => by omega, by rw [cnt_all]; exact HC.out.2.2, grown_refl _ _⟩
  case round =>
    obtain ⟨s, hs, hi, H9, hrow, hgr⟩ := hrel
    have HG : Hid (Row g d (cnt c d s) wr ∧ w.grownBy wr (some g)) := ⟨hrow, hgr⟩
    clear hrow hgr
    cases s with
    | succ s =>
      have hi' : u5 = .int .i64 (s : Int) := by rw [hi]; go_num
      clear hi
      subst hi'
      obtain ⟨x, hx⟩ : ∃ x, x = c s := ⟨_, rfl⟩
      have hxq : x < D.q := by rw [hx]; exact HC.out.2.1.el s
      have hcl : wr.cell? ⟨g, s, none⟩ = some (.int .i64 (x : Nat)) := by rw [HG.out.1.cell s (by omega), cnt_at, hx]
      have hfr := HG.out.1.free s
      have hib : (s : Int) < (d : Int) := by omega
      have HX : Hid (x = c s) := hx
      clear hx
      have HR : Hid (Row g d (cup c d s) (wr.setCell ⟨g, s, none⟩ (.int .i64 ((x : Int) + 1)))) := by
        have h := HG.out.1.store s (x + 1) (d := cup c d s) (fun j _ => by unfold cup; rw [HX.out])
        rw [Int.natCast_add] at h; exact h
      by_cases hlt : x + 1 < D.q
      · go_wp2
        go_ret
        have hm := cup_aft (fld HC.out.1) HC.out.2.1 (by omega) (by rw [← HX.out]; exact hlt) H9.out
        exact ⟨grown_set HG.out.2 _ _, Or.inl ⟨rfl, cup c d s, HR.out, hm.1, hm.2⟩⟩
      · have HZ : Hid (∀ k, s ≤ k → k < d → c k = D.q - 1) := fun k h1 h2 => by
          by_cases e : k = s
          · rw [e, ← HX.out]; omega
          · exact H9.out k (by omega) h2
        go_wp2
        go_roundw
        case rel => exact ⟨s, by omega, by go_num, HZ.out, HR.out.store s 0 (fun j _ => cnt_step c (by omega) j), grown_set (grown_set HG.out.2 _ _) _ _⟩
        case measure => simp [intOf]
    | zero =>
      have hi' : u5 = .int .i64 (-1) := by rw [hi]; rfl
      clear hi
      subst hi'
      go_wp2
      go_ret
      exact ⟨HG.out.2, Or.inr ⟨rfl, H9.out, HG.out.1.congr (fun k hk => by unfold cnt; rw [if_pos (by omega)]; rfl)⟩⟩

end Go.Proofs.Ytillljojdnofgaa

/- The reference's polynomials: parts (Factors). -/
namespace Go.Proofs.Ytillljojdnofgaa
open Go.RowKit Go.Sort

end Go.Proofs.Ytillljojdnofgaa

/- Plain mathematics of polynomials, gone on: Euclid's lemma; parting is unique. No Go text here. -/
namespace Go.Proofs.Ytillljojdnofgaa

end Go.Proofs.Ytillljojdnofgaa
