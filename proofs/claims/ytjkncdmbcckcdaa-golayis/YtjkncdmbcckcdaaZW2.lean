/- Texts of ours, one behind the other: W2 C1 C2 D1 R1. -/
import Derived.Test.YtjkncdmbcckcdaaZA1
import Derived.Test.YtjkncdmbcckcdaaProg
import Derived.OwnWalk
import Derived.Test.YtjkncdmbcckcdaaZB2
import Derived.Test.YtjkncdmbcckcdaaZA2
/- Lists of numbers that a call makes for itself: one number more. -/
namespace Go.Proofs.Ytjkncdmbcckcdaa
open Go.RowKit

theorem Try.infoInt : (Try.prog.info? 3).map (fun i => (i.zero, i.size, i.bytes)) = some (some (.int .i64 0), 1, 8) := by kernel_rfl

/-- The slice v, made behind block number base, holds the numbers l. -/
def OwnI (base : Nat) (v : Value) (l : List Int) (w : World) : Prop := w.ownsRow base 3 1 v l.length (l.map (Value.int .i64))

theorem OwnI.nil (base : Nat) (w : World) : OwnI base (.slice none 0 0) [] w := World.ownsRow_nil _ _ _ _
theorem OwnI.alloc {base : Nat} {v : Value} {l : List Int} {w : World} (h : OwnI base v l w) (o : Obj) : OwnI base v l (w.alloc o) := World.ownsRow.alloc h o
theorem OwnI.kept {base : Nat} {v : Value} {l : List Int} {w w' : World} {row : Option Nat} (h : OwnI base v l w) (hg : w.grownBy w' row) (hne : v.ownBlock = none ∨ v.ownBlock ≠ row) : OwnI base v l w' := World.ownsRow.kept h hg hne
theorem OwnI.drewN {base : Nat} {v : Value} {l : List Int} {w : World} (h : OwnI base v l w) (n : Nat) : OwnI base v l (w.drewN n) :=
  h.kept (row := none) (grown_drewN (grown_refl _ _) n) (by cases v.ownBlock <;> simp)
/-- Old memory of the call's own: what is behind a later block number stays. -/
theorem OwnI.below {base B : Nat} {v : Value} {l : List Int} {w w' : World} (h : OwnI base v l w) (hb : Below B w w') (hB : ∀ k, v.ownBlock = some k → k < B) : OwnI base v l w' := by
  obtain ⟨h1, h2⟩ := h
  refine ⟨h1, ?_⟩
  rcases h2 with h2 | ⟨g, cap, cur, hv, hg, hh, r⟩
  · exact Or.inl h2
  · exact Or.inr ⟨g, cap, cur, hv, hg, by rw [hb.block g (hB g (by rw [hv]; rfl))]; exact hh, r⟩
theorem OwnI.lt {base : Nat} {v : Value} {l : List Int} {w : World} (h : OwnI base v l w) : ∀ k, v.ownBlock = some k → base ≤ k ∧ k < w.heap.size := World.ownsRow.lt h
theorem OwnI.mono {base base' : Nat} {v : Value} {l : List Int} {w : World} (h : OwnI base v l w) (hb : base' ≤ base) : OwnI base' v l w := by
  obtain ⟨h1, h2⟩ := h
  refine ⟨h1, ?_⟩
  rcases h2 with h2 | ⟨g, cap, cur, hv, hg, r⟩
  · exact Or.inl h2
  · exact Or.inr ⟨g, cap, cur, hv, by omega, r⟩

/-- A list that has numbers: where they lie. -/
theorem OwnI.at {base : Nat} {v : Value} {l : List Int} {w : World} (h : OwnI base v l w) (hl : l ≠ []) : ∃ g cap, v = .slice (some ⟨g, 0, none⟩) l.length cap ∧ base ≤ g ∧ g < w.heap.size ∧
    (∀ j, j < l.length → w.cell? ⟨g, j, none⟩ = some (.int .i64 (l.getD j 0))) ∧ (∀ j, w.frozen? ⟨g, j, none⟩ = false) := by
  have h' := h
  rcases h'.2 with ⟨_, h2⟩ | ⟨g, cap, cur, hv, hg, hh, r⟩
  · exact absurd (List.length_eq_zero_iff.1 h2) hl
  · have h3 : w.ownsRow base 3 1 (.slice (some ⟨g, 0, none⟩) l.length cap) l.length (l.map (Value.int .i64)) := hv ▸ h
    refine ⟨g, cap, hv, hg, lt_of_block hh, fun j hj => ?_, fun j => h3.frozenAt j⟩
    rw [h3.cellAt j (by omega), List.getElem?_map, List.getElem?_eq_getElem hj, List.getD_eq_getElem?_getD, List.getElem?_eq_getElem hj]; rfl

/-- 'l = append(l, y)', l the call's own. -/
theorem append_int {ops : Array Oper} {rest : List Oper} {o : Oper} {a : Act} {w : World} {Q : Exit → Act → World → Prop} (hgd : o.guard = none) (s x : Operand)
    (ho : o.op = .call { callee := .builtin .append, args := #[s, x], argTypes := #[22, 22] })
    (base : Nat) (v : Value) (l : List Int) (hs : a.eval s = v) (hown : OwnI base v l w) (ad : Addr) (c : Nat) (y : Int) (hx : a.eval x = .slice (some ad) 1 c) (hcell : w.cell? ad = some (.int .i64 y))
    (hlen : l.length ≤ 1000000) (hbase : base ≤ w.heap.size)
    (h : ∀ v' w', OwnI base v' (l ++ [y]) w' → w.grownBy w' v.ownBlock → wpList Try.prog ops Q rest (a.put o.dst v') w') : wpList Try.prog ops Q (o :: rest) a w := by
  obtain ⟨i0, hi, hz0, hz1, hz2⟩ := info_parts Try.infoInt
  refine wpList_append_own _ hgd s x 22 ho base 3 i0 (.int .i64 0) 1 8 Try.underlying22 hi hz0 hz1 hz2 rfl (by decide) v l.length _ hs hown ad 1 c [.int .i64 y] hx rfl ?_ ?_ ?_ ?_ hbase ?_
  · intro j u hj
    match j, hj with
    | 0, hj =>
      simp at hj; subst hj
      have : ad.add 0 = ad := by cases ad with | mk b o s => cases s <;> simp [Addr.add]
      rw [this]; exact hcell
  · intro u hu; simp at hu; subst hu; rfl
  · unfold maxLen; omega
  · omega
  · intro v' w' hown' hgrow _
    refine h v' w' ?_ hgrow
    unfold OwnI
    rw [List.map_append, List.length_append]
    exact hown'
end Go.Proofs.Ytjkncdmbcckcdaa

/- The sizes of fields, as the reference lists them (Sizes, SizeOf). -/
namespace Go.Proofs.Ytjkncdmbcckcdaa
open Go.RowKit

end Go.Proofs.Ytjkncdmbcckcdaa

/- A field of raw size, as the statements make it (fieldOf). -/
namespace Go.Proofs.Ytjkncdmbcckcdaa
open Go.RowKit

theorem FAt.ltT {F T : Nat} {D : FD} {g : Nat → Value} {w : World} (h : FAt F T D g w) : T < w.heap.size := h.row.lt

end Go.Proofs.Ytjkncdmbcckcdaa

/- What is to be true of a field, in the words of its calls. -/
namespace Go.Proofs.Ytjkncdmbcckcdaa
open Go.RowKit

theorem addZ_nat {D : FD} (_F : Fld D) {x y : Nat} (hx : x < D.q) (hy : y < D.q) : D.addZ x y = (sumD D.p D.q x y : Nat) := by
  rw [FD.addZ, if_pos ⟨nat_has hx, nat_has hy⟩]; rfl
theorem mulZ_nat {D : FD} (_F : Fld D) {x y : Nat} (hx : x < D.q) (hy : y < D.q) : D.mulZ x y = (D.mul x y : Nat) := by
  rw [FD.mulZ, if_pos ⟨nat_has hx, nat_has hy⟩]; rfl
theorem inv_zero {D : FD} {x : Nat} (hx : x < D.q) (h0 : x = 0) : D.powZ x (-1) = -1 := by
  rw [FD.powZ, if_neg (by simp [nat_has hx]), if_neg (by omega), if_pos (by omega), if_pos (by omega)]
theorem inv_nat {D : FD} (hD : D ∈ fieldsL) {x : Nat} (hx : x < D.q) (h0 : x ≠ 0) : D.powZ x (-1) = (D.pw x (D.q - 2) : Nat) := by
  have F := fld hD
  have h2 := F.q2
  rw [FD.powZ, if_neg (by simp [nat_has hx]), if_neg (by omega), if_neg (by omega)]
  have : ((-1 : Int) % ((D.q - 1 : Nat) : Int)).toNat = (D.q - 2) := by
    have e : (-1 : Int) = ((D.q - 2 : Nat) : Int) + (-1) * ((D.q - 1 : Nat) : Int) := by omega
    rw [e, Int.add_mul_emod_self_right, ← Int.natCast_emod, Int.toNat_natCast]
    exact Nat.mod_eq_of_lt (by omega)
  rw [this]; rfl
theorem pw_lt {D : FD} (hD : D ∈ fieldsL) (x : Nat) (k : Nat) : D.pw x k < D.q := by
  have F := fld hD
  exact F.pow_lt _ (Nat.mod_lt _ (by have := F.q2; omega))
theorem pw_ne {D : FD} (hD : D ∈ fieldsL) (x : Nat) (k : Nat) : D.pw x k ≠ 0 ∧ D.lg (D.pw x k) = D.lg x * k % (D.q - 1) := by
  have F := fld hD
  have hn : D.lg x * k % (D.q - 1) < D.q - 1 := Nat.mod_lt _ (by have := F.q2; omega)
  exact ⟨(F.full _ hn).1, F.lg_pow _ hn⟩
theorem t11 {D : FD} (hD : D ∈ fieldsL) {x : Nat} (hx : x < D.q) (h0 : x ≠ 0) : D.mulZ x (D.powZ x (-1)) = 1 := by
  have F := fld hD
  have h2 := F.q2
  have hp := pw_ne hD x (D.q - 2)
  rw [inv_nat hD hx h0, mulZ_nat F hx (pw_lt hD _ _), FD.mul, if_neg (by omega), hp.2, Nat.add_mod_mod, show D.lg x + D.lg x * (D.q - 2) = D.lg x * (D.q - 1) from by
    rw [show D.q - 1 = (D.q - 2) + 1 from by omega, Nat.mul_add, Nat.mul_one]; omega, Nat.mul_mod_left]
  rfl
end Go.Proofs.Ytjkncdmbcckcdaa

/- The reference: digits of a number, and the number of digits. -/
namespace Go.Proofs.Ytjkncdmbcckcdaa
open Go.RowKit

/-- Digit j of a to the base p. -/
def dg (p a j : Nat) : Nat := a / p ^ j % p
def digL (p a m : Nat) : List Int := (List.range m).map fun j => ((dg p a j : Nat) : Int)
theorem digL_succ (p a m : Nat) : digL p a (m + 1) = digL p a m ++ [((dg p a m : Nat) : Int)] := by
  unfold digL; rw [List.range_succ, List.map_append]; rfl
theorem digL_len (p a m : Nat) : (digL p a m).length = m := by simp [digL]
theorem digL_get (p a m j : Nat) (h : j < m) : (digL p a m).getD j 0 = ((dg p a j : Nat) : Int) := by
  rw [List.getD_eq_getElem?_getD, List.getElem?_eq_getElem (by rw [digL_len]; exact h)]
  simp [digL]

set_option maxHeartbeats 2000000 in
theorem digits_any (a p m : Nat) (w : World) (ha : a ≤ 1000000) (hp : 1 ≤ p) (hp2 : p ≤ 64) (hm : m ≤ 1000) :
    Calls Try.prog 44 #[.int .i64 a, .int .i64 p, .int .i64 m] w fun e w' => ∃ v, e = .returned v ∧ OwnI w.heap.size v (digL p a m) w' ∧ Below w.heap.size w w' := by
  go_enter Try.func44, Try.ntmps44
  go_wp2
  go_loopw [0, 7, 8] (fun x v i wr => ∃ j y : Nat, j ≤ m ∧ y ≤ a ∧ x = .int .i64 y ∧ i = .int .i64 j ∧ Hid (y = a / p ^ j) ∧ OwnI w.heap.size v (digL p a j) wr ∧ Below w.heap.size w wr) (fun _ _ i _ => m - (intOf i).toNat)
  case atStart => exact ⟨0, a, by omega, by omega, rfl, rfl, by simp [Hid], OwnI.nil _ _, Below.refl _ _⟩
  case round =>
    obtain ⟨j, y, hj, hy, rfl, rfl, HY, hown, hbel⟩ := hrel
    have hsz := hbel.size
    have hlen := digL_len p a j
    by_cases hlt : j < m
    · have hq1 : y / p ≤ y := Nat.div_le_self _ _
      have hq2 : y % p < p := Nat.mod_lt _ (by omega)
      have HL : Hid (digL p a (j + 1) = digL p a j ++ [((y % p : Nat) : Int)]) := by
        show _ = _
        rw [digL_succ, HY.out]; rfl
      have HN : Hid (y / p = a / p ^ (j + 1)) := by
        show _ = _
        rw [HY.out, Nat.div_div_eq_div_mul, Nat.pow_succ]
      go_wp2_with (at_builtin; refine append_int rfl _ _ rfl w.heap.size _ (digL p a j) rfl (hown.alloc _) ⟨_, 0, none⟩ 1 (((y % p : Nat) : Int)) rfl (by simp) (by omega) (by simp; omega) ?_; intro v' w1 hown' hgrow')
      go_roundw
      case rel => exact ⟨j + 1, y / p, by omega, by omega, by rw [w_quo y p (by omega)], by go_num, HN.out, by rw [HL.out]; exact hown', (hbel.alloc (by omega) _).grown hgrow' (by simp; omega) (fun k hk => (hown.lt k hk).1)⟩
      case measure => simp [intOf]; omega
    · have e : j = m := by omega
      have HO : Hid (OwnI w.heap.size u7 (digL p a m) wr) := by rw [← e]; exact hown
      go_wp2
      go_ret
      exact ⟨_, rfl, HO.out, hbel⟩

/-- The number of n digits, from the highest one down, k of them. -/
def horner (p : Nat) (f : Nat → Nat) (n : Nat) : Nat → Nat
  | 0 => 0
  | k + 1 => horner p f n k * p + f (n - 1 - k)
theorem horner_lt (p : Nat) (f : Nat → Nat) (n : Nat) (hp : p ≤ 64) (hf : ∀ j, f j < 64) : ∀ k, horner p f n k < 64 ^ k
  | 0 => by simp [horner]
  | k + 1 => by
    have h1 := horner_lt p f n hp hf k
    have h2 := hf (n - 1 - k)
    rw [horner, Nat.pow_succ]
    have h3 : horner p f n k * p ≤ horner p f n k * 64 := Nat.mul_le_mul_left _ hp
    have : (horner p f n k + 1) * 64 ≤ 64 ^ k * 64 := Nat.mul_le_mul_right 64 h1
    rw [Nat.add_mul, Nat.one_mul] at this
    omega

set_option maxHeartbeats 2000000 in
theorem number_gen (g cap p n : Nat) (f : Nat → Nat) (w : World) (hp2 : p ≤ 64) (hn : n ≤ 6) (hf : ∀ j, f j < 64)
    (hc : ∀ j, j < n → w.cell? ⟨g, j, none⟩ = some (.int .i64 (f j : Nat))) :
    Calls Try.prog 91 #[.slice (some ⟨g, 0, none⟩) n cap, .int .i64 p] w fun e w' => e = .returned (.int .i64 (horner p f n n : Nat)) ∧ w' = w := by
  have HC : Hid (∀ j, j < n → w.cell? ⟨g, j, none⟩ = some (.int .i64 (f j : Nat))) := hc
  have HL : Hid (∀ k, k ≤ n → horner p f n k < 68719476736) := fun k hk => Nat.lt_of_lt_of_le (horner_lt p f n hp2 hf k) (Nat.le_trans (Nat.pow_le_pow_right (by omega) (Nat.le_trans hk hn)) (by decide))
  have HF : Hid (∀ j, f j < 64) := hf
  clear hc hf
  go_enter Try.func91, Try.ntmps91
  go_wp2
  go_loop [5, 6] (fun a i => ∃ r : Nat, r ≤ n ∧ i = .int .i64 ((r : Int) - 1) ∧ a = .int .i64 (horner p f n (n - r) : Nat)) (fun _ i => (intOf i + 1).toNat)
  case atStart => exact ⟨n, by omega, rfl, by rw [Nat.sub_self]; rfl⟩
  case round =>
    obtain ⟨r, hr, hi, rfl⟩ := hrel
    have hb := HL.out (n - r) (by omega)
    cases r with
    | succ s =>
      have hi' : u6 = .int .i64 (s : Int) := by rw [hi]; go_num
      clear hi
      subst hi'
      have hcl : w.cell? ⟨g, s, none⟩ = some (.int .i64 (f s : Nat)) := HC.out _ (by omega)
      have hfl := HF.out s
      obtain ⟨x, hx⟩ : ∃ x, x = horner p f n (n - (s + 1)) := ⟨_, rfl⟩
      have HX : Hid (horner p f n (n - s) = x * p + f s) := by
        show _ = _
        rw [hx, show n - s = (n - (s + 1)) + 1 from by omega, horner, show n - 1 - (n - (s + 1)) = s from by omega]
      rw [← hx] at hb ⊢
      clear hx
      have hm : x * p ≤ 68719476736 * 64 := Nat.mul_le_mul (by omega) hp2
      have h4 : (x : Int) * (p : Int) ≤ 4398046511104 := by rw [← Int.natCast_mul]; omega
      have h5 : 0 ≤ (x : Int) * (p : Int) := by rw [← Int.natCast_mul]; omega
      go_wp2
      go_round
      case rel => exact ⟨s, by omega, by go_num, by rw [HX.out]; go_num⟩
      case measure => simp [intOf]
    | zero =>
      have hi' : u6 = .int .i64 (-1) := by rw [hi]; rfl
      clear hi
      subst hi'
      go_wp2
      go_ret
      exact ⟨rfl, rfl⟩

theorem number_any (g cap p n : Nat) (f : Nat → Nat) (w : World) (_hp : 1 ≤ p) (hp2 : p ≤ 64) (hn : n ≤ 6) (_hpn : p ^ n ≤ 4096) (hf : ∀ j, f j < p)
    (hc : ∀ j, j < n → w.cell? ⟨g, j, none⟩ = some (.int .i64 (f j : Nat))) :
    Calls Try.prog 91 #[.slice (some ⟨g, 0, none⟩) n cap, .int .i64 p] w fun e w' => e = .returned (.int .i64 (horner p f n n : Nat)) ∧ w' = w :=
  number_gen g cap p n f w hp2 hn (fun j => Nat.lt_of_lt_of_le (hf j) hp2) hc
end Go.Proofs.Ytjkncdmbcckcdaa
