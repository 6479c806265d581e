/- Polar: slices.Sort of numbers; the best places, rising. -/
import Derived.Test.YtbfkacnpbelmlaaZKS9
namespace Go.Proofs.Ytbfkacnpbelmlaa
open Go.Shelf Go.RowKit Go.Lib Go.Sort

/-- Numbers as whole ones. -/
def intL (l : List Nat) : List Int := l.map fun x => ((x : Nat) : Int)

theorem sortS (blk off cap : Nat) (zs : List Int) (w : World) (hH : Holds (Value.int .i64) w blk off zs.toArray) (hblk : blk < w.heap.size) (hsz : zs.length < 4611686018427387904) :
    Calls Try.prog 31 #[.slice (some ⟨blk, off, none⟩) zs.length cap] w fun e w' =>
      e = .returned (.tuple #[]) ∧ ∃ n os, w' = grow (putRow (Value.int .i64) (Sort.ahead w n) blk off (zs.mergeSort fun x y => decide (x ≤ y)).toArray) os := Any.slices_Sort_int lay189 blk off cap zs w hH hblk hsz
set_option maxHeartbeats 400000 in
theorem isort_any {base G K cap : Nat} {l : List Int} {w : World} (ho : OwnI base (.slice (some ⟨G, 0, none⟩) K cap) l w) (hl : l.length = K) (hK : K ≤ 64) (hK1 : 1 ≤ K) :
    Calls Try.prog 31 #[.slice (some ⟨G, 0, none⟩) K cap] w fun e w' => e = .returned (.tuple #[]) ∧ OwnI base (.slice (some ⟨G, 0, none⟩) K cap) (l.mergeSort fun x y => decide (x ≤ y)) w' ∧ ∀ B u, Below B u w → B ≤ G → Below B u w' := by
  obtain ⟨g0, c0, e0, hbg, hGs, hat, hfr⟩ := ho.at (by intro e; rw [e] at hl; simp at hl; omega)
  cases e0
  have hH : Holds (Value.int .i64) w G 0 l.toArray := fun j hj => by
    have hj2 : j < l.length := hj
    rw [Nat.zero_add]
    refine ⟨?_, hfr j⟩
    rw [hat j hj2, getElem!_pos l.toArray j hj, List.getElem_toArray, List.getD_eq_getElem?_getD, List.getElem?_eq_getElem hj2, Option.getD_some]
  refine (sortS G 0 cap l w hH hGs (by omega)).mono ?_
  rintro e w' ⟨rfl, n, os, hw'⟩
  have hlen : (l.mergeSort fun x y => decide (x ≤ y)).length = l.length := List.length_mergeSort l
  obtain ⟨l', hl'⟩ : ∃ l', l' = l.mergeSort fun x y => decide (x ≤ y) := ⟨_, rfl⟩
  rw [← hl'] at hw' hlen ⊢
  clear hl'
  have hw2 : w' = sortWorld (Value.int .i64) w G 0 n l'.toArray os := hw'
  refine ⟨rfl, ?_, fun B u hb hB => by rw [hw2]; exact sortWorld_bel (Value.int .i64) hb hB hGs⟩
  rw [hw2]
  refine sorted_own (d0 := l.toArray) (Value.int .i64) ho rfl hlen hlen rfl hH (fun i hi => ?_)
  have hi2 : i < l'.length := by omega
  rw [getElem!_pos l'.toArray i hi2, List.getElem_toArray, List.getD_eq_getElem?_getD, List.getElem?_eq_getElem hi2, Option.getD_some]

theorem srt_pre (m : Nat) : ∀ d k, srt m k <+: srt m (k + d)
  | 0, _ => List.prefix_refl _
  | d + 1, k => (srt_pre m d k).trans (List.prefix_append _ _)
theorem flt_perm {m k : Nat} (hm : m ≤ 5) (hk : k ≤ 2 ^ m) : ((List.range (2 ^ m)).filter fun j => (srt m k).contains j).Perm (srt m k) := by
  obtain ⟨h1, h2⟩ := srt_all hm
  have hp : srt m k <+: srt m (2 ^ m) := by have := srt_pre m (2 ^ m - k) k; rw [Nat.add_sub_cancel' hk] at this; exact this
  have hn : (srt m (2 ^ m)).Nodup := h1.symm.nodup List.nodup_range
  refine (List.perm_ext_iff_of_nodup (List.nodup_range.filter _) (hn.sublist hp.sublist)).2 (fun a => ?_)
  rw [List.mem_filter, List.contains_iff_mem]
  exact ⟨fun h => h.2, fun h => ⟨h1.subset (hp.subset h), h⟩⟩
theorem flt_sort {m k : Nat} (hm : m ≤ 5) (hk : k ≤ 2 ^ m) : ((intL (srt m k)).mergeSort fun x y => decide (x ≤ y)) = flt (srt m k) (2 ^ m) := by
  have h := flt_perm hm hk
  refine List.Perm.eq_of_pairwise (le := fun a b : Int => a ≤ b) (fun a b _ _ x y => Int.le_antisymm x y) ?_ ?_ ?_
  · exact (List.pairwise_mergeSort (le := fun x y : Int => decide (x ≤ y)) (fun a b c h1 h2 => by simp only [decide_eq_true_eq] at *; omega) (fun a b => by simp only [Bool.or_eq_true, decide_eq_true_eq]; omega) _).imp (fun h => by simpa using h)
  · unfold flt
    rw [List.pairwise_map]
    exact (List.Pairwise.filter _ List.pairwise_lt_range).imp (fun {a b} h => by omega)
  · refine (List.mergeSort_perm _ _).trans ?_
    exact (h.map _).symm
end Go.Proofs.Ytbfkacnpbelmlaa
