/- The rules of package digits: a map of structs with functions (rules). -/
import Derived.Test.YtonjkpakbmbafaaZKK3
import Derived.Laws.EntriesVeiled
namespace Go.Proofs.Ytonjkpakbmbafaa
open Go.RowKit Go.Maps

/-- Elements of a map, read as themselves. -/
def hdR (v : Value) : Option (DataW Value × List MemPlace) := some (.held v, [])
theorem und_int : Try.prog.underlying 3 = some (.int .i64) := by kernel_rfl
theorem und_rul : Try.prog.underlying 101 = some (.map 3 99) := by kernel_rfl
theorem int_law : Keyed Try.prog 3 := int_keyed und_int
def rulV (lo hi : Int) (fn : Nat) : Value := .agg #[.int .i64 lo, .int .i64 hi, .func (Fn.func fn) #[] #[]]
def rul1 : Value := rulV 1 64 83
def rul2 : Value := rulV 9 9 84
def rul3 : Value := rulV 12 12 85
def rul4 : Value := rulV 1 64 86
def rul5 : Value := rulV 1 64 87
def rulD : DataW Value := (((((DataW.map []).put (.int .i64 1) (.held rul1)).put (.int .i64 2) (.held rul2)).put (.int .i64 3) (.held rul3)).put (.int .i64 4) (.held rul4)).put (.int .i64 5) (.held rul5)
theorem rulD_eq : rulD = .map [(.int .i64 1, .held rul1), (.int .i64 2, .held rul2), (.int .i64 3, .held rul3), (.int .i64 4, .held rul4), (.int .i64 5, .held rul5)] := rfl
theorem key_int (a : Int) (h : (Lit.int .i64 a).wf = true) : keyOf Try.prog 3 (.int .i64 a) = some (.int .i64 a) := keyOf_int_mk und_int h

set_option maxHeartbeats 4000000 in
set_option maxRecDepth 100000 in
theorem rules_any (w : World) :
    Calls Try.prog 59 #[] w fun e w' => e = .returned (.map (some w.heap.size)) ∧ w'.ownsMap Try.prog 3 hdR w.heap.size 5 rulD ∧ Below w.heap.size w w' := by
  have hmm := @run_makeMap Try.prog
  have ho0 : (w.alloc (.map #[] 0)).ownsMap Try.prog 3 hdR w.heap.size 0 (.map []) := World.ownsMap_made _ _ _ _
  have hb0 : Below w.heap.size w (w.alloc (.map #[] 0)) := (Below.refl _ _).alloc (Nat.le_refl _) _
  obtain ⟨w1, hr1, ho1, hg1⟩ := ho0.update int_law und_rul (by unfold maxLen; omega) (key_int 1 rfl) (show hdR rul1 = some (.held rul1, []) from rfl)
  have hb1 := hb0.grown hg1 hb0.size (fun k hk => by cases hk; exact Nat.le_refl _)
  obtain ⟨w2, hr2, ho2, hg2⟩ := ho1.update int_law und_rul (by unfold maxLen; omega) (key_int 2 rfl) (show hdR rul2 = some (.held rul2, []) from rfl)
  have hb2 := hb1.grown hg2 hb1.size (fun k hk => by cases hk; exact Nat.le_refl _)
  obtain ⟨w3, hr3, ho3, hg3⟩ := ho2.update int_law und_rul (by unfold maxLen; omega) (key_int 3 rfl) (show hdR rul3 = some (.held rul3, []) from rfl)
  have hb3 := hb2.grown hg3 hb2.size (fun k hk => by cases hk; exact Nat.le_refl _)
  obtain ⟨w4, hr4, ho4, hg4⟩ := ho3.update int_law und_rul (by unfold maxLen; omega) (key_int 4 rfl) (show hdR rul4 = some (.held rul4, []) from rfl)
  have hb4 := hb3.grown hg4 hb3.size (fun k hk => by cases hk; exact Nat.le_refl _)
  obtain ⟨w5, hr5, ho5, hg5⟩ := ho4.update int_law und_rul (by unfold maxLen; omega) (key_int 5 rfl) (show hdR rul5 = some (.held rul5, []) from rfl)
  have HE : Hid (w5.ownsMap Try.prog 3 hdR w.heap.size 5 rulD ∧ Below w.heap.size w w5) := ⟨ho5, hb4.grown hg5 hb4.size (fun k hk => by cases hk; exact Nat.le_refl _)⟩
  unfold rul1 rulV at hr1
  unfold rul2 rulV at hr2
  unfold rul3 rulV at hr3
  unfold rul4 rulV at hr4
  unfold rul5 rulV at hr5
  clear ho0 ho1 ho2 ho3 ho4 ho5 hb0 hb1 hb2 hb3 hb4 hg1 hg2 hg3 hg4 hg5
  go_enter Try.func59, Try.ntmps59
  go_wp2
  go_ret
  exact ⟨rfl, HE.out.1, HE.out.2⟩

theorem zero_rul (w : World) : (zeroValue 99).run Try.prog w = .ok (.agg #[.int .i64 0, .int .i64 0, .nilFunc]) w := by kernel_rfl
theorem rul_has {k : Int} (h : k < 1 ∨ 5 < k) : Maps.has rulD (.int .i64 k) = false := by
  rw [rulD_eq]
  simp [Maps.has, Lit.sameKey]
  omega
/-- The rule of a kind. -/
def rulK (k : Nat) : Value := if k = 1 then rul1 else if k = 2 then rul2 else if k = 3 then rul3 else if k = 4 then rul4 else rul5
theorem rul_at {k : Nat} (h1 : 1 ≤ k) (h5 : k ≤ 5) (z : DataW Value) : Maps.has rulD (.int .i64 (k : Nat)) = true ∧ rulD.atKey (.int .i64 (k : Nat)) z = .held (rulK k) := by
  rcases k with _ | _ | _ | _ | _ | _ | k
  · omega
  · exact ⟨rfl, rfl⟩
  · exact ⟨rfl, rfl⟩
  · exact ⟨rfl, rfl⟩
  · exact ⟨rfl, rfl⟩
  · exact ⟨rfl, rfl⟩
  · omega
/-- What is looked up there. -/
theorem look_rul {w : World} {B : Nat} (ho : w.ownsMap Try.prog 3 hdR B 5 rulD) {k : Nat} (h1 : 1 ≤ k) (h5 : k ≤ 5) :
    (Instr.lookup 101 (.map (some B)) (.int .i64 (k : Nat)) true).run Try.prog w = .ok (.tuple #[rulK k, .bool true]) w := by
  obtain ⟨v, ps, hrun, hv⟩ := ho.look_ok int_law und_rul (zero_rul w) (show hdR _ = some (.held _, []) from rfl) (key_int (k : Nat) (WalkArith.wf_i64 (by omega)))
  have h := rul_at h1 h5 (.held (.agg #[.int .i64 0, .int .i64 0, .nilFunc]))
  rw [h.2] at hv
  rw [h.1] at hrun
  have : v = rulK k := by
    have h4 := congrArg Prod.fst (Option.some.inj hv)
    exact DataW.held.inj h4
  rw [this] at hrun
  exact hrun
theorem rul_none {k : Int} (h : k < 1 ∨ 5 < k) (z : DataW Value) : rulD.atKey (.int .i64 k) z = z := by
  rw [rulD_eq]
  have h1 : ¬ (1 : Int) = k := by omega
  have h2 : ¬ (2 : Int) = k := by omega
  have h3 : ¬ (3 : Int) = k := by omega
  have h4 : ¬ (4 : Int) = k := by omega
  have h5 : ¬ (5 : Int) = k := by omega
  simp [DataW.atKey, Lit.sameKey, h1, h2, h3, h4, h5]
theorem look_no {w : World} {B : Nat} (ho : w.ownsMap Try.prog 3 hdR B 5 rulD) {k : Int} (hk : (Lit.int .i64 k).wf = true) (h : k < 1 ∨ 5 < k) :
    (Instr.lookup 101 (.map (some B)) (.int .i64 k) true).run Try.prog w = .ok (.tuple #[.agg #[.int .i64 0, .int .i64 0, .nilFunc], .bool false]) w := by
  obtain ⟨v, ps, hrun, hv⟩ := ho.look_ok int_law und_rul (zero_rul w) (show hdR _ = some (.held _, []) from rfl) (key_int k hk)
  rw [rul_has h] at hrun
  rw [rul_none h] at hv
  have h4 := congrArg Prod.fst (Option.some.inj hv)
  rw [DataW.held.inj h4] at hrun
  exact hrun
end Go.Proofs.Ytonjkpakbmbafaa
