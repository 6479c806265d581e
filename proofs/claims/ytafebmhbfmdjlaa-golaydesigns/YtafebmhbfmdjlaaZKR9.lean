/- Golay: the reference's DesignOf. -/
import Derived.Test.YtafebmhbfmdjlaaZKR8
import Derived.Test.YtafebmhbfmdjlaaZKR7
namespace Go.Proofs.Ytafebmhbfmdjlaa
open Go.RowKit Go.Sort

theorem Try.infoU64 : (Try.prog.info? 35).map (fun i => (i.zero, i.size, i.bytes)) = some (some (.int .u64 0), 1, 8) := by kernel_rfl
/-- The slice v of numbers of 64 bits, made behind block number base. -/
def OwnU (base : Nat) (v : Value) (l : List Nat) (w : World) : Prop := w.ownsRow base 35 1 v l.length (l.map fun x => Value.int .u64 (x : Nat))
theorem OwnU.nil (base : Nat) (w : World) : OwnU base (.slice none 0 0) [] w := World.ownsRow_nil _ _ _ _
theorem OwnU.alloc {base : Nat} {v : Value} {l : List Nat} {w : World} (h : OwnU base v l w) (o : Obj) : OwnU base v l (w.alloc o) := World.ownsRow.alloc h o
theorem OwnU.lt {base : Nat} {v : Value} {l : List Nat} {w : World} (h : OwnU base v l w) : ∀ k, v.ownBlock = some k → base ≤ k ∧ k < w.heap.size := World.ownsRow.lt h
theorem OwnU.sl {base : Nat} {v : Value} {l : List Nat} {w : World} (h : OwnU base v l w) : ∃ ao cap, v = .slice ao l.length cap ∧ SlU ao l.length (fun i => l.getD i 0) w := by
  have h' := h
  rcases h'.2 with ⟨h1, h2⟩ | ⟨g, cap, cur, hv, hg, hh, hle, r⟩
  · refine ⟨none, 0, ?_, fun i hi => absurd hi (by omega)⟩
    rw [h2]; exact h1
  · have h3 : w.ownsRow base 35 1 (.slice (some ⟨g, 0, none⟩) l.length cap) l.length (l.map fun x => Value.int .u64 (x : Nat)) := hv ▸ h
    refine ⟨some ⟨g, 0, none⟩, cap, hv, fun j hj => ⟨g, 0, rfl, ?_⟩⟩
    show _ = some (Value.int .u64 (l.getD j 0 : Nat))
    rw [Nat.zero_add, h3.cellAt j (by omega), List.getElem?_map, List.getElem?_eq_getElem hj, List.getD_eq_getElem?_getD, List.getElem?_eq_getElem hj]; rfl
theorem append_u64 {ops : Array Oper} {rest : List Oper} {o : Oper} {a : Act} {w : World} {Q : Exit → Act → World → Prop} (hgd : o.guard = none) (s x : Operand)
    (ho : o.op = .call { callee := .builtin .append, args := #[s, x], argTypes := #[42, 42] })
    (base : Nat) (v : Value) (l : List Nat) (hs : a.eval s = v) (hown : OwnU base v l w) (ad : Addr) (c : Nat) (y : Nat) (hx : a.eval x = .slice (some ad) 1 c) (hcell : w.cell? ad = some (.int .u64 (y : Nat)))
    (hlen : l.length ≤ 1000000) (hbase : base ≤ w.heap.size)
    (h : ∀ v' w', OwnU base v' (l ++ [y]) w' → w.grownBy w' v.ownBlock → wpList Try.prog ops Q rest (a.put o.dst v') w') : wpList Try.prog ops Q (o :: rest) a w := by
  obtain ⟨i0, hi, hz0, hz1, hz2⟩ := info_parts Try.infoU64
  refine wpList_append_own _ hgd s x 42 ho base 35 i0 (.int .u64 0) 1 8 Try.underlying42 hi hz0 hz1 hz2 rfl (by decide) v l.length _ hs hown ad 1 c [.int .u64 (y : Nat)] hx rfl ?_ ?_ ?_ ?_ hbase ?_
  · intro j u hj
    match j, hj with
    | 0, hj =>
      simp at hj; subst hj
      have : ad.add 0 = ad := by cases ad with | mk b o s => cases s <;> simp [Addr.add]
      rw [this]; exact hcell
  · intro u hu; simp at hu; subst hu; rfl
  · unfold maxLen; omega
  · omega
  · intro v' w' hown' hgrow _
    refine h v' w' ?_ hgrow
    unfold OwnU
    rw [List.map_append, List.length_append]
    exact hown'
/-- The blocks as numbers. -/
def bkf (N : Nat → Nat) (Z : Nat → Nat → Int) : Nat → Nat := fun i => sbt (Z i) (N i)
def bkl (N : Nat → Nat) (Z : Nat → Nat → Int) (m : Nat) : List Nat := (List.range m).map (bkf N Z)
theorem bkl_len (N : Nat → Nat) (Z : Nat → Nat → Int) (m : Nat) : (bkl N Z m).length = m := by unfold bkl; rw [List.length_map, List.length_range]
theorem bkl_succ (N : Nat → Nat) (Z : Nat → Nat → Int) (m : Nat) : bkl N Z (m + 1) = bkl N Z m ++ [bkf N Z m] := by unfold bkl; rw [List.range_succ, List.map_append]; rfl
theorem bkl_at {N : Nat → Nat} {Z : Nat → Nat → Int} {m i : Nat} (h : i < m) : (bkl N Z m).getD i 0 = bkf N Z i := by
  unfold bkl
  simp [List.getD_eq_getElem?_getD, h]
theorem bkf_lt {n : Int} {m : Nat} {N : Nat → Nat} {Z : Nat → Nat → Int} (hn : n ≤ 64) (h : gpl n N Z m = false) {i : Nat} (hi : i < m) : (∀ j, j < N i → 0 ≤ Z i j ∧ Z i j < 64) ∧ bkf N Z i < 18446744073709551616 := by
  have h1 : ∀ j, j < N i → 0 ≤ Z i j ∧ Z i j < 64 := fun j hj => by
    have := anG_no _ (anG_no _ h i hi) j hj
    rw [Bool.or_eq_false_iff, decide_eq_false_iff_not, decide_eq_false_iff_not] at this
    omega
  exact ⟨h1, sbt_lt (N i) (fun j hj => by have := h1 j hj; omega)⟩
/-- What is told of a design. -/
def DoP (c : Nat → Nat) (L : List Nat) (e : Ending) : Prop :=
  (∃ k : Int, dsr c L (-1) = some k ∧ e = .returned (.tuple #[.int .i64 k, .bool true])) ∨ (dsr c L (-1) = none ∧ e = .returned (.tuple #[.int .i64 0, .bool false]))

set_option maxHeartbeats 8000000 in
set_option maxRecDepth 100000 in
theorem designOf_any {ao : Option Addr} {m ca n t : Nat} {A : Nat → Option Addr} {N C : Nat → Nat} {Z : Nat → Nat → Int} {w : World} (hM : MatZ ao m A N C Z w) (hm : m ≤ 6000) (hN : ∀ i, i < m → N i ≤ 6000) (hn : n ≤ 64) (ht : t ≤ n) (hp : gpl (n : Int) N Z m = false) :
    Calls Try.prog 7 #[.int .i64 (n : Nat), .slice ao m ca, .int .i64 (t : Nat)] w fun e w' => DoP (fun s => lic (bkf N Z) s m) (sls n t 0 0) e ∧ Below w.heap.size w w' := by
  have HM : Hid (MatZ ao m A N C Z w ∧ (∀ i, i < m → N i ≤ 6000) ∧ gpl (n : Int) N Z m = false) := ⟨hM, hN, hp⟩
  clear hM hN hp
  go_enter Try.func7, Try.ntmps7
  go_wp2
  go_loopw [8, 9] (fun vs vi wr => ∃ i : Nat, vi = .int .i64 (i : Nat) ∧ i ≤ m ∧ Hid (OwnU w.heap.size vs (bkl N Z i) wr ∧ Below w.heap.size w wr)) (fun _ vi _ => m - (intOf vi).toNat)
  case atStart => exact ⟨0, rfl, by omega, OwnU.nil _ _, Below.refl _ _⟩
  case round =>
    obtain ⟨i, rfl, hi, HS⟩ := hrel
    rename World => wr
    by_cases hlt : i < m
    · have hib : (i : Int) < (m : Int) := by omega
      have hMr := HM.out.1.below HS.out.2
      obtain ⟨b, off, e1, hcell⟩ := hMr.cell i hlt
      subst e1
      have hsz := HS.out.2.size
      obtain ⟨y, hy⟩ : ∃ y, y = bkf N Z i := ⟨_, rfl⟩
      have HB : Hid (∀ cx, Calls Try.prog 13 #[.slice (A i) (N i) cx] wr fun e w' => e = .returned (.int .u64 (y : Nat)) ∧ w' = wr) := fun cx => by
        rw [hy]
        exact rbits_any (hMr.sl i hlt) (HM.out.2.1 i hlt) (bkf_lt (by omega) HM.out.2.2 hlt).1
      have HL : Hid ((bkl N Z i).length = i) := bkl_len N Z i
      have HY : Hid (bkl N Z (i + 1) = bkl N Z i ++ [y]) := by rw [hy]; exact bkl_succ N Z i
      clear hMr hy
      go_wp2_with fail
      refine (HB.out _).mono ?_
      rintro e w1 ⟨rfl, hw⟩
      have hw := hw.symm
      subst hw
      go_wp2_with (at_builtin; refine append_u64 rfl _ _ rfl w.heap.size _ (bkl N Z i) rfl (HS.out.1.alloc _) ⟨_, 0, none⟩ 1 y rfl (by simp) (by have := HL.out; omega) (by simp; omega) ?_; intro v3 w3 hown3 hgrow3)
      have HZ : Hid (OwnU w.heap.size v3 (bkl N Z (i + 1)) w3 ∧ Below w.heap.size w w3) := by
        refine ⟨?_, (HS.out.2.alloc hsz _).grown hgrow3 (by simp; omega) (fun k hk => (HS.out.1.lt k hk).1)⟩
        rw [HY.out]
        exact hown3
      clear hown3 hgrow3
      go_roundw
      case rel => exact ⟨i + 1, by go_num, by omega, HZ.out⟩
      case measure => simp [intOf]; omega
    · have hib : ¬ (i : Int) < (m : Int) := by omega
      have hie : i = m := by omega
      subst hie
      obtain ⟨so, sc, hv, hsl⟩ := HS.out.1.sl
      rw [bkl_len] at hv hsl
      have hsl2 : SlU so i (bkf N Z) wr := fun j hj => by
        obtain ⟨b, off, e1, e2⟩ := hsl j hj
        exact ⟨b, off, e1, by rw [e2]; show some (Value.int .u64 ((bkl N Z i).getD j 0 : Nat)) = _; rw [bkl_at hj]⟩
      have HD : Hid (Calls Try.prog 14 #[.int .i64 (n : Nat), .slice so i sc, .int .i64 (t : Nat), .int .i64 0, .int .u64 0, .int .i64 (-1)] wr (DeP (fun s => lic (bkf N Z) s i) (sls n t 0 0) (-1) wr)) :=
        designed_any hn hm hsl2 (fun j hj => (bkf_lt (by omega) HM.out.2.2 hj).2) t 0 0 (-1) ht (by omega) (by omega) (by omega) (by omega)
      have HB : Hid (Below w.heap.size w wr) := HS.out.2
      subst hv
      clear hsl hsl2 HS
      go_wp2_with fail
      refine HD.out.mono ?_
      rintro e w1 ⟨hw, ⟨k, hk, hk1, hk2, rfl⟩ | ⟨hk, k, rfl⟩⟩
      · have hw := hw.symm
        subst hw
        have HF : Hid (DoP (fun s => lic (bkf N Z) s i) (sls n t 0 0) (.returned (.tuple #[.int .i64 k, .bool true]))) := Or.inl ⟨k, hk, rfl⟩
        clear hk
        go_wp2
        go_ret2
        exact ⟨HF.out, HB.out⟩
      · have hw := hw.symm
        subst hw
        have HF : Hid (DoP (fun s => lic (bkf N Z) s i) (sls n t 0 0) (.returned (.tuple #[.int .i64 0, .bool false]))) := Or.inr ⟨hk, rfl⟩
        clear hk
        go_wp2
        go_ret2
        exact ⟨HF.out, HB.out⟩
end Go.Proofs.Ytafebmhbfmdjlaa
