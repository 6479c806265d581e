/- Golay: sets, as an iterator. -/
import Derived.Test.YtafebmhbfmdjlaaZKR3
import Derived.Test.YtafebmhbfmdjlaaZL10
namespace Go.Proofs.Ytafebmhbfmdjlaa
open Go.RowKit Go.Shelf

theorem sets_any (n t : Nat) (w : World) :
    Calls Try.prog 11 #[.int .i64 (n : Nat), .int .i64 (t : Nat)] w fun e w' => ∃ b c : Nat, e = .returned (.func (.func 16) #[] #[.pointer (some ⟨b, 0, none⟩), .pointer (some ⟨c, 0, none⟩)]) ∧ w'.cell? ⟨b, 0, none⟩ = some (.int .i64 (n : Nat)) ∧ w'.cell? ⟨c, 0, none⟩ = some (.int .i64 (t : Nat)) ∧ Below w.heap.size w w' := by
  go_enter Try.func11, Try.ntmps11
  go_wp2
  go_ret
  refine ⟨w.heap.size, w.heap.size + 1, rfl, ?_, ?_, ?_⟩
  · simp
  · simp
  · exact ((Below.refl _ _).alloc (Nat.le_refl _) _).alloc (by simp) _

/-- All sets of t of n places. -/
def slv (n t : Nat) : List (Array Value) := (sls n t 0 0).map fun s => #[.int .u64 (s : Nat)]
theorem slv_len (n t : Nat) : (slv n t).length = (sls n t 0 0).length := by unfold slv; rw [List.length_map]
theorem slv_at {n t r : Nat} (h : r < (slv n t).length) : (slv n t).getD r #[] = #[.int .u64 ((sls n t 0 0).getD r 0 : Nat)] := by
  rw [slv_len] at h
  unfold slv
  simp [List.getD_eq_getElem?_getD, h]

set_option maxHeartbeats 4000000 in
set_option maxRecDepth 100000 in
theorem sets_seq {b c n t : Nat} {w : World} (hcb : w.cell? ⟨b, 0, none⟩ = some (.int .i64 (n : Nat))) (hcc : w.cell? ⟨c, 0, none⟩ = some (.int .i64 (t : Nat))) (hn : n ≤ 64) (ht : t ≤ n) :
    SeqS Try.prog 16 #[.pointer (some ⟨b, 0, none⟩), .pointer (some ⟨c, 0, none⟩)] (slv n t) w := by
  intro l J Jx W hbW hl hlW hJ hJx hY hJ0
  have c0 := ((bcell hbW).1 b 0 (cell_lt hcb)).trans hcb
  have c1 := ((bcell hbW).1 c 0 (cell_lt hcc)).trans hcc
  have HC : Hid (Calls Try.prog 17 #[.int .u64 0, .int .i64 0, .int .i64 (n : Nat), .int .i64 (t : Nat), .func (.yield l) #[] #[]] W (MoP J (fun Y => ∃ r, r < (slv n t).length ∧ Jx r Y) (slv n t).length)) := by
    have := more_any (n := n) (l := l) (J := J) (Jx := fun Y => ∃ r, r < (slv n t).length ∧ Jx r Y) hn t 0 0 0 W ht (by omega) (by omega) (fun i X hi hj => by
      rw [← slv_len] at hi
      rw [Nat.zero_add] at hj ⊢
      rw [← slv_at hi]
      obtain ⟨fn, tmps, assign, body, hy, hR⟩ := hY i X hi hj
      refine ⟨fn, tmps, assign, body, hy, hR.mono ?_⟩
      rintro e Y (⟨rfl, h⟩ | ⟨rfl, h⟩)
      · exact Or.inl ⟨rfl, h⟩
      · exact Or.inr ⟨rfl, i, hi, h⟩) hJ0
    rw [Nat.zero_add, ← slv_len] at this
    exact this
  refine callsIn_wide.2 ?_
  show Calls Try.prog 16 #[.func (.yield l) #[] #[], .pointer (some ⟨b, 0, none⟩), .pointer (some ⟨c, 0, none⟩)] W _
  clear hY hJ hJx hJ0 hbW hcb hcc
  go_enter Try.func16, Try.ntmps16
  go_wp2_with fail
  refine HC.out.mono ?_
  rintro e Y (⟨rfl, h⟩ | ⟨rfl, h⟩)
  · have H : Hid (J (slv n t).length Y) := h
    clear h
    go_wp2
    exact bodyPost_end (results_none rfl _ _ _) rfl ⟨⟨_, rfl⟩, Or.inl H.out⟩
  · have H : Hid (∃ r, r < (slv n t).length ∧ Jx r Y) := h
    clear h
    go_wp2
    exact bodyPost_end (results_none rfl _ _ _) rfl ⟨⟨_, rfl⟩, Or.inr H.out⟩
end Go.Proofs.Ytafebmhbfmdjlaa
