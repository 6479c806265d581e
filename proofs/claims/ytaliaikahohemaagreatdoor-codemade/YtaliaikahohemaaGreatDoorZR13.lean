/- Texts of ours, one behind the other: R13 R18 R14 B4 B5 B6 R15 M7 R16 R17 B7 B8 M8 M9 G1 N1 N2 N3 N4. -/
import Derived.Test.YtaliaikahohemaaGreatDoorZR5
import Derived.Test.YtaliaikahohemaaGreatDoorZM3
import Derived.Deep.RegionWith
import Derived.Deep.RegionHeld3
/- The reference: are two lists the same (Same); the elements of a smaller field (Within). -/
namespace Go.Proofs.YtaliaikahohemaaGreatDoor
open Go.RowKit

/-- The slice v reads as the numbers l. -/
def SliceI (v : Value) (l : List Int) (w : World) : Prop :=
  (l = [] ∧ ∃ ao cap, v = .slice ao 0 cap) ∨ (l ≠ [] ∧ l.length ≤ 1000000 ∧ ∃ b off cap, v = .slice (some ⟨b, off, none⟩) l.length cap ∧ ∀ j, j < l.length → w.cell? ⟨b, off + j, none⟩ = some (.int .i64 (l.getD j 0)))
theorem OwnI.slice {base : Nat} {v : Value} {l : List Int} {w : World} (h : OwnI base v l w) (hl : l.length ≤ 1000000) : SliceI v l w := by
  by_cases e : l = []
  · refine Or.inl ⟨e, ?_⟩
    rcases h.2 with ⟨h1, _⟩ | ⟨g, cap, cur, hv, _⟩
    · exact ⟨none, 0, h1⟩
    · rw [e] at hv; exact ⟨_, cap, hv⟩
  · obtain ⟨g, cap, hv, _, _, hc, _⟩ := h.at e
    exact Or.inr ⟨e, hl, g, 0, cap, hv, fun j hj => by rw [Nat.zero_add]; exact hc j hj⟩
theorem SliceI.below {B : Nat} {v : Value} {l : List Int} {w w' : World} (h : SliceI v l w) (hb : Below B w w') (hB : ∀ k, v.ownBlock = some k → k < B) : SliceI v l w' := by
  rcases h with h | ⟨h1, h2, b, off, cap, rfl, hc⟩
  · exact Or.inl h
  · exact Or.inr ⟨h1, h2, b, off, cap, rfl, fun j hj => ((bcell hb).1 b (off + j) (hB b rfl)).trans (hc j hj)⟩
theorem SliceI.drewN {v : Value} {l : List Int} {w : World} (h : SliceI v l w) (n : Nat) : SliceI v l (w.drewN n) := h

theorem list_ext_getD (l m : List Int) (h : l.length = m.length) (e : ∀ j, j < l.length → l.getD j 0 = m.getD j 0) : l = m := by
  apply List.ext_getElem h
  intro i h1 h2
  have := e i h1
  rwa [List.getD_eq_getElem?_getD, List.getD_eq_getElem?_getD, List.getElem?_eq_getElem h1, List.getElem?_eq_getElem h2] at this

set_option maxHeartbeats 2000000 in
theorem same_any {va vb : Value} {la lb : List Int} {w : World} (ha : SliceI va la w) (hb : SliceI vb lb w) :
    Calls Tryz.prog 39 #[va, vb] w fun e w' => e = .returned (.bool (decide (la = lb))) ∧ ∃ n, w' = w.drewN n := by
  by_cases hlen : la.length = lb.length
  · rcases ha with ⟨rfl, ao, ca, rfl⟩ | ⟨h1, h2, b, off, cap, rfl, hc⟩
    · have h0 : lb = [] := List.length_eq_zero_iff.1 hlen.symm
      subst h0
      rcases hb with ⟨_, bo, cb, rfl⟩ | ⟨h3, _⟩
      · clear hlen
        go_enter Tryz.func39, Tryz.ntmps39
        go_wp2
        refine wp_loop_rounds 1 ?_
        rw [rounds_succ]
        go_wp2
        go_ret
        exact ⟨rfl, 0, rfl⟩
      · exact absurd rfl h3
    · rcases hb with ⟨rfl, bo, cb, rfl⟩ | ⟨h3, h4, b', off', cap', rfl, hc'⟩
      · exact absurd (List.length_eq_zero_iff.1 hlen) h1
      · obtain ⟨n, hn⟩ : ∃ n, n = la.length := ⟨_, rfl⟩
        rw [← hlen, ← hn]
        have HC : Hid ((∀ j, j < n → w.cell? ⟨b, off + j, none⟩ = some (.int .i64 (la.getD j 0))) ∧ (∀ j, j < n → w.cell? ⟨b', off' + j, none⟩ = some (.int .i64 (lb.getD j 0)))) := ⟨fun j hj => hc j (by omega), fun j hj => hc' j (by omega)⟩
        have HL : Hid (n = la.length ∧ la.length = lb.length) := ⟨hn, hlen⟩
        have hnb : n ≤ 1000000 := by omega
        clear hc hc' h1 h2 h3 h4 hlen hn
        go_enter Tryz.func39, Tryz.ntmps39
        go_wp2
        go_loopw [5] (fun i wr => ∃ k : Nat, k ≤ n ∧ i = .int .i64 k ∧ Hid (∀ j, j < k → la.getD j 0 = lb.getD j 0) ∧ ∃ d, wr = w.drewN d) (fun i _ => n - (intOf i).toNat)
        case atStart => exact ⟨0, by omega, rfl, fun j hj => by omega, 0, rfl⟩
        case round =>
          obtain ⟨k, hk, rfl, HK, d, rfl⟩ := hrel
          by_cases hlt : k < n
          · have c1 := HC.out.1 k hlt
            have c2 := HC.out.2 k hlt
            obtain ⟨x, hx⟩ : ∃ x, x = la.getD k 0 := ⟨_, rfl⟩
            obtain ⟨y, hy⟩ : ∃ y, y = lb.getD k 0 := ⟨_, rfl⟩
            rw [← hx] at c1
            rw [← hy] at c2
            have HX : Hid (x = la.getD k 0 ∧ y = lb.getD k 0) := ⟨hx, hy⟩
            clear hx hy
            by_cases he : x = y
            · have hb : (x != y) = false := by rw [he]; simp
              have HK2 : Hid (∀ j, j < k + 1 → la.getD j 0 = lb.getD j 0) := fun j hj => if e : j = k then by rw [e, ← HX.out.1, ← HX.out.2, he] else HK.out j (by omega)
              clear he
              go_wp2
              go_quiet (fail)
              go_wp2
              go_roundw
              case rel => exact ⟨k + 1, by omega, by go_num, HK2.out, _, rfl⟩
              case measure => simp [intOf]; omega
            · have hb : (x != y) = true := by rw [bne_iff_ne]; exact he
              have HV : Hid (decide (la = lb) = false) := by
                show _ = _
                rw [decide_eq_false_iff_not]; intro e; exact he (by rw [HX.out.1, HX.out.2, e])
              clear he
              go_wp2
              go_quiet (fail)
              go_wp2
              go_ret
              exact ⟨ret_bool (by rw [HV.out]), _, by rw [World.drewN_drewN]⟩
          · have HV : Hid (decide (la = lb) = true) := by
              show _ = _
              rw [decide_eq_true_eq]; exact list_ext_getD la lb HL.out.2 (fun j hj => HK.out j (by have := HL.out.1; omega))
            go_wp2
            go_ret
            exact ⟨ret_bool (by rw [HV.out]), _, rfl⟩
  · have HV : Hid (decide (la = lb) = false) := by
      show _ = _
      rw [decide_eq_false_iff_not]; intro e; exact hlen (by rw [e])
    obtain ⟨ao, ca, ea⟩ : ∃ ao ca, va = .slice ao la.length ca := by
      rcases ha with ⟨rfl, ao, ca, rfl⟩ | ⟨_, _, b, off, cap, rfl, _⟩
      · exact ⟨ao, ca, rfl⟩
      · exact ⟨_, cap, rfl⟩
    obtain ⟨bo, cb, eb⟩ : ∃ bo cb, vb = .slice bo lb.length cb := by
      rcases hb with ⟨rfl, ao, ca, rfl⟩ | ⟨_, _, b, off, cap, rfl, _⟩
      · exact ⟨ao, ca, rfl⟩
      · exact ⟨_, cap, rfl⟩
    subst ea eb
    have hne : (((la.length : Nat) : Int) != ((lb.length : Nat) : Int)) = true := by rw [bne_iff_ne]; exact_mod_cast hlen
    generalize la.length = n at *
    generalize lb.length = m at *
    clear ha hb hlen
    go_enter Tryz.func39, Tryz.ntmps39
    go_wp2
    go_ret
    exact ⟨ret_bool (by rw [HV.out]), 0, rfl⟩
end Go.Proofs.YtaliaikahohemaaGreatDoor

/- The reference: is a number in a list (In). -/
namespace Go.Proofs.YtaliaikahohemaaGreatDoor
open Go.RowKit

theorem mem_getD {l : List Int} {x : Int} : x ∈ l ↔ ∃ j, j < l.length ∧ l.getD j 0 = x := by
  constructor
  · intro h
    obtain ⟨j, hj, e⟩ := List.getElem_of_mem h
    exact ⟨j, hj, by rw [List.getD_eq_getElem?_getD, List.getElem?_eq_getElem hj]; exact e⟩
  · rintro ⟨j, hj, e⟩
    rw [List.getD_eq_getElem?_getD, List.getElem?_eq_getElem hj] at e
    rw [← e]; exact List.getElem_mem hj

set_option maxHeartbeats 2000000 in
theorem in_any {v : Value} {l : List Int} {w : World} (x : Int) (h : SliceI v l w) :
    Calls Tryz.prog 82 #[.int .i64 x, v] w fun e w' => e = .returned (.bool (decide (x ∈ l))) ∧ ∃ n, w' = w.drewN n := by
  rcases h with ⟨rfl, ao, ca, rfl⟩ | ⟨h1, h2, b, off, cap, rfl, hc⟩
  · go_enter Tryz.func82, Tryz.ntmps82
    go_wp2
    refine wp_loop_rounds 1 ?_
    rw [rounds_succ]
    go_wp2
    go_ret
    exact ⟨rfl, 0, rfl⟩
  · obtain ⟨n, hn⟩ : ∃ n, n = l.length := ⟨_, rfl⟩
    rw [← hn]
    have HC : Hid ((∀ j, j < n → w.cell? ⟨b, off + j, none⟩ = some (.int .i64 (l.getD j 0))) ∧ n = l.length) := ⟨fun j hj => hc j (by omega), hn⟩
    have hnb : n ≤ 1000000 := by omega
    clear hc h1 h2 hn
    go_enter Tryz.func82, Tryz.ntmps82
    go_wp2
    go_loopw [5] (fun i wr => ∃ k : Nat, k ≤ n ∧ i = .int .i64 k ∧ Hid (∀ j, j < k → l.getD j 0 ≠ x) ∧ ∃ d, wr = w.drewN d) (fun i _ => n - (intOf i).toNat)
    case atStart => exact ⟨0, by omega, rfl, fun j hj => by omega, 0, rfl⟩
    case round =>
      obtain ⟨k, hk, rfl, HK, d, rfl⟩ := hrel
      by_cases hlt : k < n
      · have c1 := HC.out.1 k hlt
        obtain ⟨y, hy⟩ : ∃ y, y = l.getD k 0 := ⟨_, rfl⟩
        rw [← hy] at c1
        have HX : Hid (y = l.getD k 0) := hy
        clear hy
        by_cases he : y = x
        · have hb : (y == x) = true := beq_iff_eq.2 he
          have HV : Hid (decide (x ∈ l) = true) := by
            show _ = _
            rw [decide_eq_true_eq]; exact mem_getD.2 ⟨k, by have := HC.out.2; omega, by rw [← HX.out, he]⟩
          clear he
          go_wp2
          go_ret
          exact ⟨ret_bool (by rw [HV.out]), _, by first | rfl | rw [World.drewN_drewN]⟩
        · have hb : (y == x) = false := beq_eq_false_iff_ne.2 he
          have HK2 : Hid (∀ j, j < k + 1 → l.getD j 0 ≠ x) := fun j hj => if e : j = k then by rw [e, ← HX.out]; exact he else HK.out j (by omega)
          clear he
          go_wp2
          go_roundw
          case rel => exact ⟨k + 1, by omega, by go_num, HK2.out, _, rfl⟩
          case measure => simp [intOf]; omega
      · have HV : Hid (decide (x ∈ l) = false) := by
          show _ = _
          rw [decide_eq_false_iff_not]; intro e
          obtain ⟨j, hj, e⟩ := mem_getD.1 e
          exact HK.out j (by have := HC.out.2; omega) e
        go_wp2
        go_ret
        exact ⟨ret_bool (by rw [HV.out]), _, rfl⟩
end Go.Proofs.YtaliaikahohemaaGreatDoor

/- The reference: the elements of a smaller field within one (Within). -/
namespace Go.Proofs.YtaliaikahohemaaGreatDoor
open Go.RowKit

end Go.Proofs.YtaliaikahohemaaGreatDoor

/- A field's calls, gone on: Frobenius, traces, norms. -/
namespace Go.Proofs.YtaliaikahohemaaGreatDoor
open Go.RowKit

end Go.Proofs.YtaliaikahohemaaGreatDoor

/- A field's calls, gone on: its modulus, the elements of a smaller field. -/
namespace Go.Proofs.YtaliaikahohemaaGreatDoor
open Go.RowKit

theorem RowF.own {g n base : Nat} {f : Nat → Value} {l : List Int} {w : World} (h : RowF g n 3 f w) (hl : l.length = n) (hf : ∀ j, j < n → f j = .int .i64 (l.getD j 0)) (hb : base ≤ g) (hn : n ≤ 1000000) : OwnI base (.slice (some ⟨g, 0, none⟩) n n) l w := by
  obtain ⟨cs, h1, h2, h3⟩ := h
  refine ⟨by simp, Or.inr ⟨g, n, cs, by rw [hl], hb, h1, by omega, by unfold maxLen; omega, by omega, ?_⟩⟩
  rw [hl, Nat.mul_one, List.take_of_length_le (by simp; omega)]
  apply List.ext_getElem?
  intro i
  by_cases hi : i < n
  · rw [Array.getElem?_toList, h3 i hi, hf i hi, List.getElem?_map, List.getD_eq_getElem?_getD, List.getElem?_eq_getElem (by omega)]; rfl
  · rw [List.getElem?_eq_none (by simp; omega), List.getElem?_eq_none (by simp; omega)]

theorem bel_up {B : Nat} {w W w1 : World} (h0 : Below B w W) (h : Below W.heap.size W w1) (hB : B ≤ w.heap.size := by exact Nat.le_refl _) : Below B w w1 := h0.trans (h.mono (Nat.le_trans hB h0.size))

end Go.Proofs.YtaliaikahohemaaGreatDoor

/- A field's calls, gone on: a field within another (holds, Within). -/
namespace Go.Proofs.YtaliaikahohemaaGreatDoor
open Go.RowKit

/-! ### Plain mathematics -/
/-! ### Calls -/
end Go.Proofs.YtaliaikahohemaaGreatDoor

/- The reference: a polynomial's value at an element (value). -/
namespace Go.Proofs.YtaliaikahohemaaGreatDoor
open Go.RowKit

/-- The value of n coefficients at x, from the highest one down, k of them. -/
def FD.val (D : FD) (c : Nat → Nat) (n x : Nat) : Nat → Nat
  | 0 => 0
  | k + 1 => sumD D.p D.q (D.mul (D.val c n x k) x) (c (n - 1 - k))
theorem bel_up' {B : Nat} {w W w1 : World} (h0 : Below B w W) (h : Below W.heap.size W w1) (hB : B ≤ w.heap.size := by exact Nat.le_refl _) : Below B w w1 := h0.trans (h.mono (Nat.le_trans hB h0.size))

theorem radd_nat {D : FD} (hD : D ∈ fieldsL) (gen : Nat) (v : Value) (a b : Nat) (ha : a < D.q) (hb : b < D.q) (wr : World) :
    Calls Tryz.prog 89 #[.agg #[.int .i64 D.q, .int .i64 D.p, .int .i64 D.m, .int .i64 gen, v], .int .i64 a, .int .i64 b] wr fun e w' => e = .returned (.int .i64 (sumD D.p D.q a b : Nat)) ∧ Below wr.heap.size wr w' := by
  rw [← addZ_nat (fld hD) ha hb]
  exact radd_any hD gen v a b wr

end Go.Proofs.YtaliaikahohemaaGreatDoor

/- Plain mathematics of a field within another: what the smaller one's x becomes. -/
namespace Go.Proofs.YtaliaikahohemaaGreatDoor

/-- The smaller field's modulus, coefficient by coefficient. -/
def FD.modN (E : FD) (j : Nat) : Nat := if j = E.m then 1 else dgt E.p E.low j
/-- The k-th element that is tried. -/
def FD.xk (D E : FD) (k : Nat) : Nat := again D.st (k * ((D.q - 1) / (E.q - 1)) % (D.q - 1)) 1
def FD.isRoot (D E : FD) (k : Nat) : Bool := D.val E.modN (E.m + 1) (D.xk E k) (E.m + 1) == 0
/-- The first number from k on, among n, that meets p. -/
def firstFrom (p : Nat → Bool) : Nat → Nat → Nat
  | 0, k => k
  | n + 1, k => if p k = true then k else firstFrom p n (k + 1)
def FD.rootK (D E : FD) : Nat := firstFrom (D.isRoot E) (E.q - 1) 1
def FD.root (D E : FD) : Nat := if E.m = 1 then 0 else D.xk E (D.rootK E)
end Go.Proofs.YtaliaikahohemaaGreatDoor

/- The reference: what each element of a field becomes in a greater one (Embed). -/
namespace Go.Proofs.YtaliaikahohemaaGreatDoor
open Go.RowKit

theorem modL_len' {D : FD} : D.modL.length = D.m + 1 := by unfold FD.modL; rw [List.length_append, digL_len]; rfl

end Go.Proofs.YtaliaikahohemaaGreatDoor

/- The reference: what each element of a field becomes in a greater one, gone on (Embed). -/
namespace Go.Proofs.YtaliaikahohemaaGreatDoor
open Go.RowKit

end Go.Proofs.YtaliaikahohemaaGreatDoor

/- A field's calls, gone on: what a smaller field's elements become (at, rootFor, Embed). -/
namespace Go.Proofs.YtaliaikahohemaaGreatDoor
open Go.RowKit

theorem mul_nat {F T : Nat} {D : FD} (hD : D ∈ fieldsL) {g : Nat → Value} {w : World} (h : FAt F T D g w) {a b : Nat} (ha : a < D.q) (hb : b < D.q) :
    Calls Tryz.prog 92 #[.pointer (some ⟨F, 0, none⟩), .int .i64 a, .int .i64 b] w fun e w' => e = .returned (.int .i64 (D.mul a b : Nat)) ∧ ∃ n, w' = w.drewN n := by
  rw [← mulZ_nat (fld hD) ha hb]; exact mul_any hD h a b
theorem add_nat {F T : Nat} {D : FD} (hD : D ∈ fieldsL) {g : Nat → Value} {w : World} (h : FAt F T D g w) {a b : Nat} (ha : a < D.q) (hb : b < D.q) :
    Calls Tryz.prog 91 #[.pointer (some ⟨F, 0, none⟩), .int .i64 a, .int .i64 b] w fun e w' => e = .returned (.int .i64 (sumD D.p D.q a b : Nat)) ∧ ∃ n, w' = w.drewN n := by
  rw [← addZ_nat (fld hD) ha hb]; exact add_any hD h a b

end Go.Proofs.YtaliaikahohemaaGreatDoor

/- A field's calls, gone on: what a smaller field's elements become (Embed). -/
namespace Go.Proofs.YtaliaikahohemaaGreatDoor
open Go.RowKit

end Go.Proofs.YtaliaikahohemaaGreatDoor

/- Plain mathematics: Fermat and Frobenius, traces and norms; what a smaller field's elements become is a copy of it. -/
namespace Go.Proofs.YtaliaikahohemaaGreatDoor
open Go.RowKit

/-! ### The kernel's checks -/
end Go.Proofs.YtaliaikahohemaaGreatDoor

/- Plain mathematics, gone on: the laws that follow from the kernel's checks. -/
namespace Go.Proofs.YtaliaikahohemaaGreatDoor
open Go.RowKit

theorem zero_mul' (D : FD) (a : Nat) : D.mul 0 a = 0 := by simp [FD.mul]
theorem inv_is {D : FD} (hD : D ∈ fieldsL) {x : Nat} (hx : x < D.q) (h0 : x ≠ 0) : D.mul x (D.pw x (D.q - 2)) = 1 := by
  have h := t11 hD hx h0
  rw [inv_nat hD hx h0, mulZ_nat (fld hD) hx (pw_lt hD x _)] at h
  exact_mod_cast h
/-! ### Frobenius -/
/-! ### Traces and norms -/
/-! ### Copies -/
end Go.Proofs.YtaliaikahohemaaGreatDoor

/- The walk of the statement FieldEmbeds. -/
namespace Go.Proofs.YtaliaikahohemaaGreatDoor
open Go.RowKit

/-! ### What two answers with lists are held together by -/
set_option maxHeartbeats 2000000 in
theorem list_err (e : Int) (he : e ≠ 0) (w : World) :
    Calls Tryz.prog 33 #[.slice none 0 0, .int .i64 e, .slice none 0 0, .int .i64 e] w fun r w' => r = .returned (.bool true) ∧ w' = w := by
  have h1 : (e != 0) = true := bne_iff_ne.2 he
  go_enter Tryz.func33, Tryz.ntmps33
  go_wp2
  go_ret
  exact ⟨rfl, rfl⟩

set_option maxHeartbeats 2000000 in
theorem list_same {va vb : Value} {l : List Int} {w : World} (ha : SliceI va l w) (hb : SliceI vb l w) :
    Calls Tryz.prog 33 #[va, .int .i64 0, vb, .int .i64 0] w fun r w' => r = .returned (.bool true) ∧ ∃ n, w' = w.drewN n := by
  have H : Hid (SliceI va l w ∧ SliceI vb l w) := ⟨ha, hb⟩
  clear ha hb
  go_enter Tryz.func33, Tryz.ntmps33
  go_wp2_with fail
  refine (same_any H.out.1 H.out.2).mono ?_
  rintro e w' ⟨rfl, n, rfl⟩
  rw [decide_eq_true rfl]
  go_wp2
  go_ret
  exact ⟨rfl, _, rfl⟩

end Go.Proofs.YtaliaikahohemaaGreatDoor

/- Plain mathematics of polynomials over a field: sums, multiples, shifts, products. A polynomial is the function of its coefficients. No Go text here. -/
namespace Go.Proofs.YtaliaikahohemaaGreatDoor

def FD.ad (D : FD) (a b : Nat) : Nat := sumD D.p D.q a b
def FD.ng (D : FD) (a : Nat) : Nat := negD D.p D.q a
def FD.sb (D : FD) (a b : Nat) : Nat := D.ad a (D.ng b)

/-- All coefficients are elements. -/
def El (D : FD) (c : Nat → Nat) : Prop := ∀ i, c i < D.q

theorem ad_lt {D : FD} (F : Fld D) {a b : Nat} (ha : a < D.q) (hb : b < D.q) : D.ad a b < D.q := F.sum_lt a b ha hb
theorem ad_comm {D : FD} (F : Fld D) (a b : Nat) : D.ad a b = D.ad b a := F.add_comm a b
theorem ad_assoc {D : FD} (F : Fld D) {a b c : Nat} (ha : a < D.q) (hb : b < D.q) (hc : c < D.q) : D.ad (D.ad a b) c = D.ad a (D.ad b c) := F.add_assoc a b c ha hb hc
theorem ad_zero {D : FD} (F : Fld D) {a : Nat} (ha : a < D.q) : D.ad a 0 = a := F.sum_zero a ha
theorem zero_ad {D : FD} (F : Fld D) {a : Nat} (ha : a < D.q) : D.ad 0 a = a := by rw [ad_comm F]; exact ad_zero F ha
theorem zero_lt' {D : FD} (F : Fld D) : 0 < D.q := by have := F.q2; omega
theorem one_lt' {D : FD} (F : Fld D) : 1 < D.q := by have := F.q2; omega
theorem ng_lt {D : FD} (F : Fld D) {a : Nat} (ha : a < D.q) : D.ng a < D.q := F.neg_lt a ha
theorem ad_ng {D : FD} (F : Fld D) {a : Nat} (ha : a < D.q) : D.ad a (D.ng a) = 0 := F.sum_neg a ha
theorem ng_zero {D : FD} (F : Fld D) : D.ng 0 = 0 := by
  have h := ad_ng F (zero_lt' F)
  rwa [zero_ad F (ng_lt F (zero_lt' F))] at h
theorem sb_lt {D : FD} (F : Fld D) {a b : Nat} (ha : a < D.q) (hb : b < D.q) : D.sb a b < D.q := ad_lt F ha (ng_lt F hb)
theorem sb_zero {D : FD} (F : Fld D) {a : Nat} (ha : a < D.q) : D.sb a 0 = a := by rw [FD.sb, ng_zero F, ad_zero F ha]
theorem sb_self {D : FD} (F : Fld D) {a : Nat} (ha : a < D.q) : D.sb a a = 0 := ad_ng F ha
theorem ad_sb {D : FD} (F : Fld D) {a b : Nat} (ha : a < D.q) (hb : b < D.q) : D.ad b (D.sb a b) = a := by
  rw [FD.sb, ad_comm F a, ← ad_assoc F hb (ng_lt F hb) ha, ad_ng F hb, zero_ad F ha]
theorem sb_ad {D : FD} (F : Fld D) {a b : Nat} (ha : a < D.q) (hb : b < D.q) : D.sb (D.ad a b) b = a := by
  rw [FD.sb, ad_assoc F ha hb (ng_lt F hb), ad_ng F hb, ad_zero F ha]
theorem ad_cancel {D : FD} (F : Fld D) {a b c : Nat} (ha : a < D.q) (hb : b < D.q) (hc : c < D.q) (h : D.ad a b = D.ad a c) : b = c := by
  have h1 := sb_ad F hb ha
  have h2 := sb_ad F hc ha
  rw [ad_comm F b a, h, ad_comm F a c, h2] at h1
  exact h1.symm
theorem sb_eq_zero {D : FD} (F : Fld D) {a b : Nat} (ha : a < D.q) (hb : b < D.q) (h : D.sb a b = 0) : a = b := by
  have := ad_sb F ha hb
  rw [h, ad_zero F hb] at this
  exact this.symm
theorem mul0 {D : FD} (_F : Fld D) (a : Nat) : D.mul a 0 = 0 := by simp [FD.mul]
theorem zmul {D : FD} (_F : Fld D) (a : Nat) : D.mul 0 a = 0 := by simp [FD.mul]
theorem mul_ad {D : FD} (F : Fld D) {a b c : Nat} (hb : b < D.q) (hc : c < D.q) : D.mul a (D.ad b c) = D.ad (D.mul a b) (D.mul a c) := F.distrib a b c hb hc
theorem ad_mul {D : FD} (F : Fld D) {a b c : Nat} (hb : b < D.q) (hc : c < D.q) : D.mul (D.ad b c) a = D.ad (D.mul b a) (D.mul c a) := by
  rw [F.mul_comm, mul_ad F hb hc, F.mul_comm a b, F.mul_comm a c]
theorem mul1 {D : FD} (F : Fld D) {a : Nat} (ha : a < D.q) : D.mul a 1 = a := F.mul_one a ha
theorem omul {D : FD} (F : Fld D) {a : Nat} (ha : a < D.q) : D.mul 1 a = a := by rw [F.mul_comm]; exact F.mul_one a ha
theorem mul_ng {D : FD} (F : Fld D) {a b : Nat} (hb : b < D.q) : D.mul a (D.ng b) = D.ng (D.mul a b) := by
  refine ad_cancel F (F.mul_lt a b) (F.mul_lt a _) (ng_lt F (F.mul_lt a b)) ?_
  rw [ad_ng F (F.mul_lt a b), ← mul_ad F hb (ng_lt F hb), ad_ng F hb, mul0 F]
theorem mul_sb {D : FD} (F : Fld D) {a b c : Nat} (hb : b < D.q) (hc : c < D.q) : D.mul a (D.sb b c) = D.sb (D.mul a b) (D.mul a c) := by
  rw [FD.sb, mul_ad F hb (ng_lt F hc), mul_ng F hc]; rfl
theorem sb_mul {D : FD} (F : Fld D) {a b c : Nat} (hb : b < D.q) (hc : c < D.q) : D.mul (D.sb b c) a = D.sb (D.mul b a) (D.mul c a) := by
  rw [F.mul_comm, mul_sb F hb hc, F.mul_comm a b, F.mul_comm a c]
theorem mul_cancel {D : FD} (F : Fld D) {a b c : Nat} (ha : a ≠ 0) (hb : b < D.q) (hc : c < D.q) (h : D.mul a b = D.mul a c) : b = c := by
  by_cases e : D.sb b c = 0
  · exact sb_eq_zero F hb hc e
  · have h1 := (F.mul_ne a _ ha e).1
    rw [mul_sb F hb hc, h, sb_self F (F.mul_lt a c)] at h1
    exact absurd rfl h1
theorem ad4 {D : FD} (F : Fld D) {a b c d : Nat} (ha : a < D.q) (hb : b < D.q) (hc : c < D.q) (hd : d < D.q) : D.ad (D.ad a b) (D.ad c d) = D.ad (D.ad a c) (D.ad b d) := by
  rw [ad_assoc F ha hb (ad_lt F hc hd), ← ad_assoc F hb hc hd, ad_comm F b c, ad_assoc F hc hb hd, ← ad_assoc F ha hc (ad_lt F hb hd)]

def padd (D : FD) (a b : Nat → Nat) : Nat → Nat := fun k => D.ad (a k) (b k)
def psub (D : FD) (a b : Nat → Nat) : Nat → Nat := fun k => D.sb (a k) (b k)
def pscale (D : FD) (s : Nat) (b : Nat → Nat) : Nat → Nat := fun k => D.mul s (b k)
def psh (i : Nat) (b : Nat → Nat) : Nat → Nat := fun k => if i ≤ k then b (k - i) else 0
def pnil : Nat → Nat := fun _ => 0
def pone : Nat → Nat := fun k => if k = 0 then 1 else 0
/-- The sum of b's multiples, each further right, n of them. -/
def pmul (D : FD) : Nat → (Nat → Nat) → (Nat → Nat) → Nat → Nat
  | 0, _, _ => pnil
  | n + 1, a, b => padd D (pmul D n a b) (psh n (pscale D (a n) b))
/-- Nothing from the place n on. -/
def Bd (n : Nat) (a : Nat → Nat) : Prop := ∀ k, n ≤ k → a k = 0

theorem el_nil {D : FD} (F : Fld D) : El D pnil := fun _ => zero_lt' F
theorem el_one {D : FD} (F : Fld D) : El D pone := fun k => by unfold pone; split; exact one_lt' F; exact zero_lt' F
theorem el_add {D : FD} (F : Fld D) {a b : Nat → Nat} (ha : El D a) (hb : El D b) : El D (padd D a b) := fun k => ad_lt F (ha k) (hb k)
theorem el_sub {D : FD} (F : Fld D) {a b : Nat → Nat} (ha : El D a) (hb : El D b) : El D (psub D a b) := fun k => sb_lt F (ha k) (hb k)
theorem el_scale {D : FD} (F : Fld D) (s : Nat) (b : Nat → Nat) : El D (pscale D s b) := fun _ => F.mul_lt _ _
theorem el_sh {D : FD} (F : Fld D) {b : Nat → Nat} (i : Nat) (hb : El D b) : El D (psh i b) := fun k => by unfold psh; split; exact hb _; exact zero_lt' F
theorem el_mul {D : FD} (F : Fld D) (a b : Nat → Nat) : ∀ n, El D (pmul D n a b)
  | 0 => el_nil F
  | n + 1 => el_add F (el_mul F a b n) (el_sh F n (el_scale F _ _))

theorem padd_comm {D : FD} (F : Fld D) (a b : Nat → Nat) : padd D a b = padd D b a := by funext k; exact ad_comm F _ _
theorem padd_assoc {D : FD} (F : Fld D) {a b c : Nat → Nat} (ha : El D a) (hb : El D b) (hc : El D c) : padd D (padd D a b) c = padd D a (padd D b c) := by funext k; exact ad_assoc F (ha k) (hb k) (hc k)
theorem padd_nil {D : FD} (F : Fld D) {a : Nat → Nat} (ha : El D a) : padd D a pnil = a := by funext k; exact ad_zero F (ha k)
theorem nil_padd {D : FD} (F : Fld D) {a : Nat → Nat} (ha : El D a) : padd D pnil a = a := by funext k; exact zero_ad F (ha k)
theorem padd4 {D : FD} (F : Fld D) {a b c d : Nat → Nat} (ha : El D a) (hb : El D b) (hc : El D c) (hd : El D d) : padd D (padd D a b) (padd D c d) = padd D (padd D a c) (padd D b d) := by funext k; exact ad4 F (ha k) (hb k) (hc k) (hd k)
theorem psub_add {D : FD} (F : Fld D) {a b : Nat → Nat} (ha : El D a) (hb : El D b) : padd D b (psub D a b) = a := by funext k; exact ad_sb F (ha k) (hb k)
theorem psub_self {D : FD} (F : Fld D) {a : Nat → Nat} (ha : El D a) : psub D a a = pnil := by funext k; exact sb_self F (ha k)
theorem psub_nil {D : FD} (F : Fld D) {a : Nat → Nat} (ha : El D a) : psub D a pnil = a := by funext k; exact sb_zero F (ha k)
theorem psub_eq_nil {D : FD} (F : Fld D) {a b : Nat → Nat} (ha : El D a) (hb : El D b) (h : psub D a b = pnil) : a = b := by
  funext k; exact sb_eq_zero F (ha k) (hb k) (congrFun h k)

theorem pscale_zero {D : FD} (F : Fld D) (b : Nat → Nat) : pscale D 0 b = pnil := by funext k; exact zmul F _
theorem pscale_one {D : FD} (F : Fld D) {b : Nat → Nat} (hb : El D b) : pscale D 1 b = b := by funext k; exact omul F (hb k)
theorem pscale_nil {D : FD} (F : Fld D) (s : Nat) : pscale D s pnil = pnil := by funext k; exact mul0 F _
theorem pscale_add {D : FD} (F : Fld D) (s : Nat) {a b : Nat → Nat} (ha : El D a) (hb : El D b) : pscale D s (padd D a b) = padd D (pscale D s a) (pscale D s b) := by funext k; exact mul_ad F (ha k) (hb k)
theorem pscale_pscale {D : FD} (F : Fld D) (s t : Nat) (b : Nat → Nat) : pscale D s (pscale D t b) = pscale D (D.mul s t) b := by funext k; exact (F.mul_assoc s t (b k)).symm
theorem add_pscale {D : FD} (F : Fld D) {s t : Nat} (hs : s < D.q) (ht : t < D.q) (b : Nat → Nat) : pscale D (D.ad s t) b = padd D (pscale D s b) (pscale D t b) := by funext k; exact ad_mul F hs ht
theorem psh_nil (i : Nat) : psh i pnil = pnil := by funext k; simp [psh, pnil]
theorem psh_add {D : FD} (F : Fld D) (i : Nat) (a b : Nat → Nat) : psh i (padd D a b) = padd D (psh i a) (psh i b) := by
  funext k
  show (if i ≤ k then D.ad (a (k - i)) (b (k - i)) else 0) = D.ad (if i ≤ k then a (k - i) else 0) (if i ≤ k then b (k - i) else 0)
  by_cases h : i ≤ k
  · rw [if_pos h, if_pos h, if_pos h]
  · rw [if_neg h, if_neg h, if_neg h, ad_zero F (zero_lt' F)]
theorem psh_scale {D : FD} (F : Fld D) (i s : Nat) (b : Nat → Nat) : psh i (pscale D s b) = pscale D s (psh i b) := by
  funext k
  show (if i ≤ k then D.mul s (b (k - i)) else 0) = D.mul s (if i ≤ k then b (k - i) else 0)
  by_cases h : i ≤ k
  · rw [if_pos h, if_pos h]
  · rw [if_neg h, if_neg h, mul0 F]
theorem psh_psh (i j : Nat) (b : Nat → Nat) : psh i (psh j b) = psh (i + j) b := by
  funext k
  unfold psh
  by_cases h1 : i ≤ k
  · rw [if_pos h1]
    by_cases h2 : j ≤ k - i
    · rw [if_pos h2, if_pos (by omega), Nat.sub_sub]
    · rw [if_neg h2, if_neg (by omega)]
  · rw [if_neg h1, if_neg (by omega)]
theorem psh_zero (b : Nat → Nat) : psh 0 b = b := by funext k; simp [psh]

theorem pmul_add_l {D : FD} (F : Fld D) {a a' b : Nat → Nat} (ha : El D a) (ha' : El D a') : ∀ n, pmul D n (padd D a a') b = padd D (pmul D n a b) (pmul D n a' b)
  | 0 => (padd_nil F (el_nil F)).symm
  | n + 1 => by
    rw [pmul, pmul, pmul, pmul_add_l F ha ha' n, show padd D a a' n = D.ad (a n) (a' n) from rfl, add_pscale F (ha n) (ha' n), psh_add F]
    exact padd4 F (el_mul F _ _ n) (el_mul F _ _ n) (el_sh F n (el_scale F _ _)) (el_sh F n (el_scale F _ _))
theorem pmul_scale_l {D : FD} (F : Fld D) (s : Nat) (a b : Nat → Nat) : ∀ n, pmul D n (pscale D s a) b = pscale D s (pmul D n a b)
  | 0 => (pscale_nil F s).symm
  | n + 1 => by
    rw [pmul, pmul, pmul_scale_l F s a b n, pscale_add F s (el_mul F _ _ n) (el_sh F n (el_scale F _ _)), ← psh_scale F, pscale_pscale F]; rfl
theorem pmul_zeros {D : FD} (F : Fld D) {a : Nat → Nat} (b : Nat → Nat) (h : Bd 0 a) : ∀ n, pmul D n a b = pnil
  | 0 => rfl
  | n + 1 => by rw [pmul, pmul_zeros F b h n, h n (Nat.zero_le _), pscale_zero F, psh_nil, padd_nil F (el_nil F)]
theorem pmul_more {D : FD} (F : Fld D) {a : Nat → Nat} (b : Nat → Nat) {n : Nat} (h : Bd n a) : ∀ k, pmul D (n + k) a b = pmul D n a b
  | 0 => rfl
  | k + 1 => by rw [← Nat.add_assoc, pmul, pmul_more F b h k, h (n + k) (by omega), pscale_zero F, psh_nil, padd_nil F (el_mul F _ _ _)]
theorem pmul_to {D : FD} (F : Fld D) {a : Nat → Nat} (b : Nat → Nat) {n N : Nat} (h : Bd n a) (hn : n ≤ N) : pmul D N a b = pmul D n a b := by
  have := pmul_more F b h (N - n)
  rwa [show n + (N - n) = N from by omega] at this
theorem pmul_sh_l {D : FD} (F : Fld D) (i : Nat) (a b : Nat → Nat) : ∀ n, pmul D (i + n) (psh i a) b = psh i (pmul D n a b)
  | 0 => by
    rw [Nat.add_zero, pmul, psh_nil]
    have : ∀ m, m ≤ i → pmul D m (psh i a) b = pnil := by
      intro m
      induction m with
      | zero => intro _; rfl
      | succ m ih => intro hm; rw [pmul, ih (by omega), show psh i a m = 0 from by unfold psh; exact if_neg (by omega), pscale_zero F, psh_nil, padd_nil F (el_nil F)]
    exact this i (Nat.le_refl _)
  | n + 1 => by
    rw [← Nat.add_assoc, pmul, pmul, pmul_sh_l F i a b n, psh_add F, psh_psh, show psh i a (i + n) = a n from by unfold psh; rw [if_pos (by omega), Nat.add_sub_cancel_left]]
theorem pmul_bd {D : FD} (F : Fld D) {a b : Nat → Nat} {m : Nat} (hb : Bd m b) : ∀ n, Bd (n + m - 1) (pmul D n a b)
  | 0 => fun _ _ => rfl
  | n + 1 => fun k hk => by
    show D.ad (pmul D n a b k) (psh n (pscale D (a n) b) k) = 0
    rw [pmul_bd F hb n k (by omega)]
    unfold psh
    split
    · unfold pscale
      rw [hb (k - n) (by omega), mul0 F, ad_zero F (zero_lt' F)]
    · exact ad_zero F (zero_lt' F)
theorem pmul_top {D : FD} (F : Fld D) {a b : Nat → Nat} {n m : Nat} (hb : Bd (m + 1) b) : pmul D (n + 1) a b (n + m) = D.mul (a n) (b m) := by
  show D.ad (pmul D n a b (n + m)) (psh n (pscale D (a n) b) (n + m)) = _
  rw [pmul_bd F hb n (n + m) (by omega)]
  unfold psh pscale
  rw [if_pos (by omega), Nat.add_sub_cancel_left, zero_ad F (F.mul_lt _ _)]
theorem pmul_assoc {D : FD} (F : Fld D) {a b c : Nat → Nat} {m : Nat} (hm : Bd m b) : ∀ n N, n + m ≤ N → pmul D N (pmul D n a b) c = pmul D n a (pmul D m b c)
  | 0, N, _ => by rw [pmul, pmul]; exact pmul_zeros F c (fun _ _ => rfl) N
  | n + 1, N, h => by
    have hN : N = n + (N - n) := by omega
    rw [pmul, pmul_add_l F (el_mul F a b n) (el_sh F n (el_scale F _ _)), pmul_assoc F hm n N (by omega)]
    conv => lhs; arg 3; rw [hN, pmul_sh_l F, pmul_scale_l F, pmul_to F c hm (by omega)]
    rfl
end Go.Proofs.YtaliaikahohemaaGreatDoor

/- Plain mathematics of polynomials, gone on: degrees, division, what is left, what divides. No Go text here. -/
namespace Go.Proofs.YtaliaikahohemaaGreatDoor

theorem bd_nil_of {c : Nat → Nat} (h : Bd 0 c) : c = pnil := by funext k; exact h k (Nat.zero_le _)
theorem Bd.mono {c : Nat → Nat} {n m : Nat} (h : Bd n c) (hm : n ≤ m) : Bd m c := fun k hk => h k (by omega)

/-- One step of a division by b, whose last coefficient is at place l: the multiple of b that begins at i is taken away. -/
def dstep (D : FD) (b : Nat → Nat) (l inv i : Nat) (r : Nat → Nat) : Nat → Nat := psub D r (psh i (pscale D (D.mul (r (i + l)) inv) b))
def divR (D : FD) (b : Nat → Nat) (l inv : Nat) : Nat → (Nat → Nat) → Nat → Nat
  | 0, r => r
  | n + 1, r => divR D b l inv n (dstep D b l inv n r)
def divQ (D : FD) (b : Nat → Nat) (l inv : Nat) : Nat → (Nat → Nat) → Nat → Nat
  | 0, _ => pnil
  | n + 1, r => fun i => if i = n then D.mul (r (n + l)) inv else divQ D b l inv n (dstep D b l inv n r) i

theorem el_dstep {D : FD} (F : Fld D) {b r : Nat → Nat} {l inv i : Nat} (hr : El D r) : El D (dstep D b l inv i r) := el_sub F hr (el_sh F i (el_scale F _ _))
theorem el_divR {D : FD} (F : Fld D) {b : Nat → Nat} {l inv : Nat} : ∀ (n : Nat) {r : Nat → Nat}, El D r → El D (divR D b l inv n r)
  | 0, _, h => h
  | n + 1, _, h => el_divR F n (el_dstep F h)
theorem el_divQ {D : FD} (F : Fld D) {b : Nat → Nat} {l inv : Nat} : ∀ (n : Nat) (r : Nat → Nat), El D (divQ D b l inv n r)
  | 0, _ => el_nil F
  | n + 1, r => fun i => by
    rw [divQ]
    show (if i = n then D.mul (r (n + l)) inv else divQ D b l inv n (dstep D b l inv n r) i) < D.q
    split
    · exact F.mul_lt _ _
    · exact el_divQ F n _ i
theorem divQ_bd {D : FD} {b : Nat → Nat} {l inv : Nat} : ∀ (n : Nat) (r : Nat → Nat), Bd n (divQ D b l inv n r)
  | 0, _ => fun _ _ => rfl
  | n + 1, r => fun i hi => by
    rw [divQ]
    show (if i = n then D.mul (r (n + l)) inv else divQ D b l inv n (dstep D b l inv n r) i) = 0
    rw [if_neg (by omega)]
    exact divQ_bd n _ i (by omega)

theorem dstep_top {D : FD} (F : Fld D) {b r : Nat → Nat} {l inv n : Nat} (hr : El D r) (hi : D.mul (b l) inv = 1) : dstep D b l inv n r (n + l) = 0 := by
  show D.sb (r (n + l)) (psh n (pscale D (D.mul (r (n + l)) inv) b) (n + l)) = 0
  unfold psh pscale
  rw [if_pos (by omega), Nat.add_sub_cancel_left, F.mul_assoc, F.mul_comm inv, hi, mul1 F (hr _), sb_self F (hr _)]
theorem dstep_hi {D : FD} (F : Fld D) {b r : Nat → Nat} {l inv n k : Nat} (hr : El D r) (hb : Bd (l + 1) b) (hk : n + l < k) : dstep D b l inv n r k = r k := by
  show D.sb (r k) (psh n (pscale D (D.mul (r (n + l)) inv) b) k) = r k
  unfold psh pscale
  rw [if_pos (by omega), hb (k - n) (by omega), mul0 F, sb_zero F (hr _)]
theorem dstep_bd {D : FD} (F : Fld D) {b r : Nat → Nat} {l inv n : Nat} (hr : El D r) (_hbe : El D b) (hb : Bd (l + 1) b) (hi : D.mul (b l) inv = 1) (h : Bd (n + 1 + l) r) : Bd (n + l) (dstep D b l inv n r) := fun k hk => by
  by_cases e : k = n + l
  · rw [e]; exact dstep_top F hr hi
  · rw [dstep_hi F hr hb (by omega)]; exact h k (by omega)
theorem divR_bd {D : FD} (F : Fld D) {b : Nat → Nat} {l inv : Nat} (hbe : El D b) (hb : Bd (l + 1) b) (hi : D.mul (b l) inv = 1) : ∀ (n : Nat) {r : Nat → Nat}, El D r → Bd (n + l) r → Bd l (divR D b l inv n r)
  | 0, r, _, h => by rwa [Nat.zero_add] at h
  | n + 1, r, hr, h => divR_bd F hbe hb hi n (el_dstep F hr) (dstep_bd F hr hbe hb hi h)
theorem pmul_congr {D : FD} {a a' b : Nat → Nat} : ∀ n, (∀ i, i < n → a i = a' i) → pmul D n a b = pmul D n a' b
  | 0, _ => rfl
  | n + 1, h => by rw [pmul, pmul, pmul_congr n (fun i hi => h i (by omega)), h n (by omega)]
/-- What was divided is the quotient's product, and what is left. -/
theorem div_is {D : FD} (F : Fld D) {b : Nat → Nat} {l inv : Nat} : ∀ (n : Nat) {r : Nat → Nat}, El D r → padd D (pmul D n (divQ D b l inv n r) b) (divR D b l inv n r) = r
  | 0, r, h => nil_padd F h
  | n + 1, r, h => by
    have i := div_is F (b := b) (l := l) (inv := inv) n (el_dstep F (b := b) (l := l) (inv := inv) (i := n) h)
    have e : pmul D n (divQ D b l inv (n + 1) r) b = pmul D n (divQ D b l inv n (dstep D b l inv n r)) b := pmul_congr n (fun j hj => if_neg (by omega))
    have e2 : divQ D b l inv (n + 1) r n = D.mul (r (n + l)) inv := if_pos rfl
    have hY := el_sh F n (el_scale F (D.mul (r (n + l)) inv) b)
    rw [pmul, e, e2, padd_comm F (pmul D n _ b), padd_assoc F hY (el_mul F _ _ n) (el_divR F (n + 1) h), divR, i]
    exact psub_add F h hY

/-- a is a multiple of b. -/
def PD (D : FD) (b a : Nat → Nat) : Prop := ∃ n Q, El D Q ∧ Bd n Q ∧ a = pmul D n Q b
theorem PD.refl {D : FD} (F : Fld D) {a : Nat → Nat} (ha : El D a) : PD D a a := by
  refine ⟨1, pone, el_one F, fun k hk => by unfold pone; rw [if_neg (by omega)], ?_⟩
  rw [pmul, pmul, show pone 0 = 1 from rfl, pscale_one F ha, psh_zero, nil_padd F ha]
theorem PD.trans {D : FD} (F : Fld D) {a b c : Nat → Nat} (h1 : PD D b a) (h2 : PD D c b) : PD D c a := by
  obtain ⟨n, Q, eQ, hQ, rfl⟩ := h1
  obtain ⟨m, R, eR, hR, rfl⟩ := h2
  refine ⟨n + m, pmul D n Q R, el_mul F _ _ n, (pmul_bd F hR n).mono (by omega), ?_⟩
  exact (pmul_assoc F hR n (n + m) (Nat.le_refl _)).symm
end Go.Proofs.YtaliaikahohemaaGreatDoor

/- Plain mathematics of polynomials, gone on: with 1 at the end; common divisors, as they are looked for. No Go text here. -/
namespace Go.Proofs.YtaliaikahohemaaGreatDoor

/-- What undoes an element. -/
def FD.iv (D : FD) (x : Nat) : Nat := D.pw x (D.q - 2)
theorem iv_lt {D : FD} (hD : D ∈ fieldsL) (x : Nat) : D.iv x < D.q := pw_lt hD x _
theorem iv_is {D : FD} (hD : D ∈ fieldsL) {x : Nat} (hx : x < D.q) (h0 : x ≠ 0) : D.mul x (D.iv x) = 1 := inv_is hD hx h0
/-- No noughts at the end. -/
def Trd (n : Nat) (c : Nat → Nat) : Prop := Bd n c ∧ (n ≠ 0 → c (n - 1) ≠ 0)
end Go.Proofs.YtaliaikahohemaaGreatDoor

/- Plain mathematics of polynomials, gone on: values of sums and products. No Go text here. -/
namespace Go.Proofs.YtaliaikahohemaaGreatDoor

/-- x to the power k. -/
def FD.xp (D : FD) (x : Nat) : Nat → Nat
  | 0 => 1
  | k + 1 => D.mul (D.xp x k) x
theorem xp_lt {D : FD} (F : Fld D) (x : Nat) : ∀ k, D.xp x k < D.q
  | 0 => one_lt' F
  | _ + 1 => F.mul_lt _ _
theorem xp_add {D : FD} (F : Fld D) (x i : Nat) : ∀ k, D.xp x (i + k) = D.mul (D.xp x i) (D.xp x k)
  | 0 => (mul1 F (xp_lt F x i)).symm
  | k + 1 => by rw [← Nat.add_assoc, FD.xp, xp_add F x i k, FD.xp, F.mul_assoc]
/-- The value at x of the first n coefficients. -/
def FD.ev (D : FD) (c : Nat → Nat) (x : Nat) : Nat → Nat
  | 0 => 0
  | n + 1 => D.ad (D.ev c x n) (D.mul (c n) (D.xp x n))
theorem ev_lt {D : FD} (F : Fld D) (c : Nat → Nat) (x : Nat) : ∀ n, D.ev c x n < D.q
  | 0 => zero_lt' F
  | n + 1 => ad_lt F (ev_lt F c x n) (F.mul_lt _ _)
theorem ev_add {D : FD} (F : Fld D) {a b : Nat → Nat} (x : Nat) (ha : El D a) (hb : El D b) : ∀ n, D.ev (padd D a b) x n = D.ad (D.ev a x n) (D.ev b x n)
  | 0 => (ad_zero F (zero_lt' F)).symm
  | n + 1 => by
    show D.ad (D.ev (padd D a b) x n) (D.mul (D.ad (a n) (b n)) (D.xp x n)) = _
    rw [ev_add F x ha hb n, ad_mul F (ha n) (hb n)]
    exact ad4 F (ev_lt F a x n) (ev_lt F b x n) (F.mul_lt _ _) (F.mul_lt _ _)
theorem ev_scale {D : FD} (F : Fld D) (s x : Nat) (b : Nat → Nat) : ∀ n, D.ev (pscale D s b) x n = D.mul s (D.ev b x n)
  | 0 => (mul0 F s).symm
  | n + 1 => by
    show D.ad (D.ev (pscale D s b) x n) (D.mul (D.mul s (b n)) (D.xp x n)) = D.mul s (D.ad (D.ev b x n) (D.mul (b n) (D.xp x n)))
    rw [ev_scale F s x b n, mul_ad F (ev_lt F b x n) (F.mul_lt _ _), F.mul_assoc]
theorem ev_to {D : FD} (F : Fld D) {c : Nat → Nat} {n : Nat} (x : Nat) (h : Bd n c) : ∀ k, D.ev c x (n + k) = D.ev c x n
  | 0 => rfl
  | k + 1 => by
    rw [← Nat.add_assoc]
    show D.ad (D.ev c x (n + k)) (D.mul (c (n + k)) (D.xp x (n + k))) = _
    rw [ev_to F x h k, h (n + k) (by omega), zmul F, ad_zero F (ev_lt F c x n)]
theorem ev_from {D : FD} (F : Fld D) {c : Nat → Nat} {n N : Nat} (x : Nat) (h : Bd n c) (hn : n ≤ N) : D.ev c x N = D.ev c x n := by
  have := ev_to F x h (N - n)
  rwa [show n + (N - n) = N from by omega] at this
theorem ev_nil {D : FD} (F : Fld D) (x : Nat) : ∀ n, D.ev pnil x n = 0
  | 0 => rfl
  | n + 1 => by
    show D.ad (D.ev pnil x n) (D.mul 0 (D.xp x n)) = 0
    rw [ev_nil F x n, zmul F, ad_zero F (zero_lt' F)]
theorem ev_sh_lo {D : FD} (F : Fld D) {b : Nat → Nat} (x i : Nat) : ∀ n, n ≤ i → D.ev (psh i b) x n = 0
  | 0, _ => rfl
  | n + 1, h => by
    show D.ad (D.ev (psh i b) x n) (D.mul (psh i b n) (D.xp x n)) = 0
    rw [ev_sh_lo F x i n (by omega), show psh i b n = 0 from by unfold psh; exact if_neg (by omega), zmul F, ad_zero F (zero_lt' F)]
theorem ev_sh {D : FD} (F : Fld D) {b : Nat → Nat} (x i : Nat) : ∀ n, D.ev (psh i b) x (i + n) = D.mul (D.xp x i) (D.ev b x n)
  | 0 => by rw [Nat.add_zero, ev_sh_lo F x i i (Nat.le_refl _)]; exact (mul0 F _).symm
  | n + 1 => by
    rw [← Nat.add_assoc]
    show D.ad (D.ev (psh i b) x (i + n)) (D.mul (psh i b (i + n)) (D.xp x (i + n))) = D.mul (D.xp x i) (D.ad (D.ev b x n) (D.mul (b n) (D.xp x n)))
    rw [ev_sh F x i n, show psh i b (i + n) = b n from by unfold psh; rw [if_pos (by omega), Nat.add_sub_cancel_left], xp_add F, mul_ad F (ev_lt F b x n) (F.mul_lt _ _), ← F.mul_assoc (b n), F.mul_comm (b n) (D.xp x i), F.mul_assoc]
/-- The value of a product is the product of the values. -/
theorem ev_mul {D : FD} (F : Fld D) {a b : Nat → Nat} (x : Nat) {m : Nat} (hm : Bd m b) (hbe : El D b) : ∀ n N, n + m ≤ N → D.ev (pmul D n a b) x N = D.mul (D.ev a x n) (D.ev b x m)
  | 0, N, _ => by rw [pmul, ev_nil F, FD.ev, zmul F]
  | n + 1, N, h => by
    rw [pmul, ev_add F x (el_mul F a b n) (el_sh F n (el_scale F _ _)), ev_mul F x hm hbe n N (by omega)]
    have e : D.ev (psh n (pscale D (a n) b)) x N = D.mul (D.xp x n) (D.mul (a n) (D.ev b x m)) := by
      rw [show N = n + (N - n) from by omega, ev_sh F x n, ev_scale F, ev_from F x hm (by omega)]
    rw [e, FD.ev, ad_mul F (ev_lt F a x n) (F.mul_lt _ _), ← F.mul_assoc (D.xp x n), F.mul_comm (D.xp x n) (a n)]
end Go.Proofs.YtaliaikahohemaaGreatDoor
