/- Polar: places in order: slices.SortFunc with the comparator of Best. -/
import Derived.Test.YtbfkacnpbelmlaaZKS8
import Derived.Test.YtbfkacnpbelmlaaZKS4
namespace Go.Proofs.Ytbfkacnpbelmlaa
open Go.Shelf Go.RowKit Go.Lib Go.Sort

/-- Is a place taken ahead of another? -/
abbrev plt (l : List Nat) (a b : Nat) : Prop := l.getD a 0 < l.getD b 0 ∨ (l.getD a 0 = l.getD b 0 ∧ b < a)
theorem srt_sorted : ((List.range 6).all fun m => (srt m (2 ^ m)).isPerm (List.range (2 ^ m)) && decide ((srt m (2 ^ m)).Pairwise (plt (lss m)))) = true := by decide +kernel
theorem srt_all {m : Nat} (hm : m ≤ 5) : (srt m (2 ^ m)).Perm (List.range (2 ^ m)) ∧ (srt m (2 ^ m)).Pairwise (plt (lss m)) := by
  have h := List.all_eq_true.1 srt_sorted m (List.mem_range.2 (by omega))
  rw [Bool.and_eq_true, decide_eq_true_eq, List.isPerm_iff] at h
  exact h
theorem srt_one {m : Nat} (hm : m ≤ 5) {L : List Nat} (hp : L.Perm (List.range (2 ^ m))) (hs : L.Pairwise fun a b => ¬ plt (lss m) b a) : L = srt m (2 ^ m) := by
  obtain ⟨h1, h2⟩ := srt_all hm
  refine List.Perm.eq_of_pairwise (le := fun a b => ¬ plt (lss m) b a) (fun a b _ _ x y => ?_) hs (h2.imp (fun {a b} h x => ?_)) (hp.trans h1.symm)
  · unfold plt at x y; omega
  · unfold plt at h x; omega

/-- A place below N. -/
abbrev Plc (N : Nat) : Type := { x : Nat // x < N }
def Plc.enc {N : Nat} (x : Plc N) : Value := .int .i64 (x.1 : Nat)
def Plc.cf {N : Nat} (l : List Nat) (x y : Plc N) : Int := bcf (l.getD x.1 0 : Nat) (l.getD y.1 0 : Nat) (x.1 : Nat) (y.1 : Nat)
theorem Plc.lt {N : Nat} (l : List Nat) (x y : Plc N) : ltOf (Plc.cf l) x y = decide (plt l x.1 y.1) := by
  show decide (Plc.cf l x y < 0) = _
  refine decide_eq_decide.2 ?_
  unfold Plc.cf bcf cmpW plt
  constructor
  · intro h
    repeat' split at h
    all_goals omega
  · intro h
    repeat' split
    all_goals omega
theorem Plc.swo {N : Nat} (l : List Nat) : SWO (ltOf (Plc.cf (N := N) l)) where
  irrefl x := by rw [Plc.lt, decide_eq_false_iff_not]; unfold plt; omega
  trans x y z h1 h2 := by
    rw [Plc.lt, decide_eq_true_eq] at h1 h2 ⊢
    unfold plt at *; omega
  ntrans x y z h1 h2 := by
    rw [Plc.lt, decide_eq_false_iff_not] at h1 h2 ⊢
    unfold plt at *; omega

theorem sortWorld_at {α : Type} [Inhabited α] (enc : α → Value) {w : World} {blk off n g : Nat} {dk : Array α} {os : Array Obj} (hg : g < w.heap.size) (hn : g ≠ blk) : (sortWorld enc w blk off n dk os).heap[g]? = w.heap[g]? := by
  unfold sortWorld grow putRow mapBlock Sort.ahead
  show (w.heap.modify blk _ ++ os)[g]? = _
  rw [Array.getElem?_append_left (by simpa using hg), Array.getElem?_modify, if_neg (fun e => hn e.symm)]
theorem sortWorld_bel {α : Type} [Inhabited α] (enc : α → Value) {u w : World} {B blk off n : Nat} {dk : Array α} {os : Array Obj} (hb : Below B u w) (hB : B ≤ blk) (hlt : blk < w.heap.size) : Below B u (sortWorld enc w blk off n dk os) := by
  have hsize : (sortWorld enc w blk off n dk os).heap.size = w.heap.size + os.size := by
    unfold sortWorld grow putRow mapBlock Sort.ahead
    simp
  exact ⟨hb.os, hb.tape, hb.output, by rw [hsize]; have := hb.size; omega, fun k hk => (sortWorld_at enc (by have := hb.size; omega) (by omega)).trans (hb.block k hk)⟩
theorem cell_of_at {w w' : World} {p : Addr} (h : w'.heap[p.block]? = w.heap[p.block]?) : w'.cell? p = w.cell? p := by
  unfold World.cell?
  rw [h]

/-- A row of numbers behind a sort. -/
theorem sorted_own {α : Type} [Inhabited α] (enc : α → Value) {base G K cap n : Nat} {l l' : List Int} {d0 d : Array α} {os : Array Obj} {w : World} (h : OwnI base (.slice (some ⟨G, 0, none⟩) K cap) l w) (hl : l.length = K) (hl' : l'.length = K) (hd : d.size = K) (hd0 : d0.size = K) (hH : Holds enc w G 0 d0) (he : ∀ i, i < K → enc (d[i]!) = .int .i64 (l'.getD i 0)) : OwnI base (.slice (some ⟨G, 0, none⟩) K cap) l' (sortWorld enc w G 0 n d os) := by
  rcases h.2 with ⟨h1, _⟩ | ⟨g, c, cur, hv, hg, hh, hle, hcm, hsz, htake⟩
  · cases h1
  · cases hv
    have hGs : G < w.heap.size := lt_of_block hh
    have hH' := holds_sortWorld enc w G 0 n d0 d os hGs hH (by omega)
    obtain ⟨cur', hh', hs'⟩ : ∃ cur' : Array Value, (sortWorld enc w G 0 n d os).heap[G]? = some (.cells cur' 3 (0, 0)) ∧ cur'.size = cur.size := by
      unfold sortWorld grow putRow mapBlock Sort.ahead
      refine ⟨putCells enc 0 d cur, ?_, by unfold putCells; simp⟩
      show (w.heap.modify G _ ++ os)[G]? = _
      rw [Array.getElem?_append_left (by simpa using hGs), Array.getElem?_modify, if_pos rfl, hh]
      rfl
    refine ⟨by rw [List.length_map]; omega, Or.inr ⟨G, cap, cur', by rw [hl'], hg, hh', by omega, hcm, by omega, ?_⟩⟩
    apply List.ext_getElem?
    intro i
    rw [List.getElem?_take]
    by_cases hi : i < l.length
    · rw [if_pos (by omega), List.getElem?_map, Array.getElem?_toList]
      have h := (hH' i (by omega)).1
      rw [Nat.zero_add, cell_of_row _ G i cur' 3 (0, 0) hh'] at h
      rw [h, he i hi, List.getD_eq_getElem?_getD, List.getElem?_eq_getElem (by omega)]
      rfl
    · rw [if_neg (by omega), List.getElem?_eq_none (by rw [List.length_map]; omega)]
end Go.Proofs.Ytbfkacnpbelmlaa
