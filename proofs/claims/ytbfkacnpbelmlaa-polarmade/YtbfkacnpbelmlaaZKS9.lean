/- Texts of ours, one behind the other: KS9 KS10 KS11. -/
import Derived.Test.YtbfkacnpbelmlaaZKS8
import Derived.Test.YtbfkacnpbelmlaaZKS7
/- Polar: places in order: slices.SortFunc with the comparator of Best. -/
namespace Go.Proofs.Ytbfkacnpbelmlaa
open Go.Shelf Go.RowKit Go.Lib Go.Sort

/-- Is a place taken ahead of another? -/
abbrev plt (l : List Nat) (a b : Nat) : Prop := l.getD a 0 < l.getD b 0 ∨ (l.getD a 0 = l.getD b 0 ∧ b < a)
theorem srt_sorted : ((List.range 6).all fun m => (srt m (2 ^ m)).isPerm (List.range (2 ^ m)) && decide ((srt m (2 ^ m)).Pairwise (plt (lss m)))) = true := by decide +kernel
theorem srt_all {m : Nat} (hm : m ≤ 5) : (srt m (2 ^ m)).Perm (List.range (2 ^ m)) ∧ (srt m (2 ^ m)).Pairwise (plt (lss m)) := by
  have h := List.all_eq_true.1 srt_sorted m (List.mem_range.2 (by omega))
  rw [Bool.and_eq_true, decide_eq_true_eq, List.isPerm_iff] at h
  exact h
theorem srt_one {m : Nat} (hm : m ≤ 5) {L : List Nat} (hp : L.Perm (List.range (2 ^ m))) (hs : L.Pairwise fun a b => ¬ plt (lss m) b a) : L = srt m (2 ^ m) := by
  obtain ⟨h1, h2⟩ := srt_all hm
  refine List.Perm.eq_of_pairwise (le := fun a b => ¬ plt (lss m) b a) (fun a b _ _ x y => ?_) hs (h2.imp (fun {a b} h x => ?_)) (hp.trans h1.symm)
  · unfold plt at x y; omega
  · unfold plt at h x; omega

/-- A place below N. -/
abbrev Plc (N : Nat) : Type := { x : Nat // x < N }
def Plc.enc {N : Nat} (x : Plc N) : Value := .int .i64 (x.1 : Nat)
def Plc.cf {N : Nat} (l : List Nat) (x y : Plc N) : Int := bcf (l.getD x.1 0 : Nat) (l.getD y.1 0 : Nat) (x.1 : Nat) (y.1 : Nat)
theorem Plc.lt {N : Nat} (l : List Nat) (x y : Plc N) : ltOf (Plc.cf l) x y = decide (plt l x.1 y.1) := by
  show decide (Plc.cf l x y < 0) = _
  refine decide_eq_decide.2 ?_
  unfold Plc.cf bcf cmpW plt
  constructor
  · intro h
    repeat' split at h
    all_goals omega
  · intro h
    repeat' split
    all_goals omega
theorem Plc.swo {N : Nat} (l : List Nat) : SWO (ltOf (Plc.cf (N := N) l)) where
  irrefl x := by rw [Plc.lt, decide_eq_false_iff_not]; unfold plt; omega
  trans x y z h1 h2 := by
    rw [Plc.lt, decide_eq_true_eq] at h1 h2 ⊢
    unfold plt at *; omega
  ntrans x y z h1 h2 := by
    rw [Plc.lt, decide_eq_false_iff_not] at h1 h2 ⊢
    unfold plt at *; omega

theorem sortWorld_at {α : Type} [Inhabited α] (enc : α → Value) {w : World} {blk off n g : Nat} {dk : Array α} {os : Array Obj} (hg : g < w.heap.size) (hn : g ≠ blk) : (sortWorld enc w blk off n dk os).heap[g]? = w.heap[g]? := by
  unfold sortWorld grow putRow mapBlock Sort.ahead
  show (w.heap.modify blk _ ++ os)[g]? = _
  rw [Array.getElem?_append_left (by simpa using hg), Array.getElem?_modify, if_neg (fun e => hn e.symm)]
theorem sortWorld_bel {α : Type} [Inhabited α] (enc : α → Value) {u w : World} {B blk off n : Nat} {dk : Array α} {os : Array Obj} (hb : Below B u w) (hB : B ≤ blk) (hlt : blk < w.heap.size) : Below B u (sortWorld enc w blk off n dk os) := by
  have hsize : (sortWorld enc w blk off n dk os).heap.size = w.heap.size + os.size := by
    unfold sortWorld grow putRow mapBlock Sort.ahead
    simp
  exact ⟨hb.os, hb.tape, hb.output, by rw [hsize]; have := hb.size; omega, fun k hk => (sortWorld_at enc (by have := hb.size; omega) (by omega)).trans (hb.block k hk)⟩
theorem cell_of_at {w w' : World} {p : Addr} (h : w'.heap[p.block]? = w.heap[p.block]?) : w'.cell? p = w.cell? p := by
  unfold World.cell?
  rw [h]

/-- A row of numbers behind a sort. -/
theorem sorted_own {α : Type} [Inhabited α] (enc : α → Value) {base G K cap n : Nat} {l l' : List Int} {d0 d : Array α} {os : Array Obj} {w : World} (h : OwnI base (.slice (some ⟨G, 0, none⟩) K cap) l w) (hl : l.length = K) (hl' : l'.length = K) (hd : d.size = K) (hd0 : d0.size = K) (hH : Holds enc w G 0 d0) (he : ∀ i, i < K → enc (d[i]!) = .int .i64 (l'.getD i 0)) : OwnI base (.slice (some ⟨G, 0, none⟩) K cap) l' (sortWorld enc w G 0 n d os) := by
  rcases h.2 with ⟨h1, _⟩ | ⟨g, c, cur, hv, hg, hh, hle, hcm, hsz, htake⟩
  · cases h1
  · cases hv
    have hGs : G < w.heap.size := lt_of_block hh
    have hH' := holds_sortWorld enc w G 0 n d0 d os hGs hH (by omega)
    obtain ⟨cur', hh', hs'⟩ : ∃ cur' : Array Value, (sortWorld enc w G 0 n d os).heap[G]? = some (.cells cur' 3 (0, 0)) ∧ cur'.size = cur.size := by
      unfold sortWorld grow putRow mapBlock Sort.ahead
      refine ⟨putCells enc 0 d cur, ?_, by unfold putCells; simp⟩
      show (w.heap.modify G _ ++ os)[G]? = _
      rw [Array.getElem?_append_left (by simpa using hGs), Array.getElem?_modify, if_pos rfl, hh]
      rfl
    refine ⟨by rw [List.length_map]; omega, Or.inr ⟨G, cap, cur', by rw [hl'], hg, hh', by omega, hcm, by omega, ?_⟩⟩
    apply List.ext_getElem?
    intro i
    rw [List.getElem?_take]
    by_cases hi : i < l.length
    · rw [if_pos (by omega), List.getElem?_map, Array.getElem?_toList]
      have h := (hH' i (by omega)).1
      rw [Nat.zero_add, cell_of_row _ G i cur' 3 (0, 0) hh'] at h
      rw [h, he i hi, List.getD_eq_getElem?_getD, List.getElem?_eq_getElem (by omega)]
      rfl
    · rw [if_neg (by omega), List.getElem?_eq_none (by rw [List.length_map]; omega)]
end Go.Proofs.Ytbfkacnpbelmlaa

/- Polar: slices.Sort of numbers; the best places, rising. -/
namespace Go.Proofs.Ytbfkacnpbelmlaa
open Go.Shelf Go.RowKit Go.Lib Go.Sort

/-- Numbers as whole ones. -/
def intL (l : List Nat) : List Int := l.map fun x => ((x : Nat) : Int)

theorem sortS (blk off cap : Nat) (zs : List Int) (w : World) (hH : Holds (Value.int .i64) w blk off zs.toArray) (hblk : blk < w.heap.size) (hsz : zs.length < 4611686018427387904) :
    Calls Try.prog 31 #[.slice (some ⟨blk, off, none⟩) zs.length cap] w fun e w' =>
      e = .returned (.tuple #[]) ∧ ∃ n os, w' = grow (putRow (Value.int .i64) (Sort.ahead w n) blk off (zs.mergeSort fun x y => decide (x ≤ y)).toArray) os := Any.slices_Sort_int lay189 blk off cap zs w hH hblk hsz
set_option maxHeartbeats 400000 in
theorem isort_any {base G K cap : Nat} {l : List Int} {w : World} (ho : OwnI base (.slice (some ⟨G, 0, none⟩) K cap) l w) (hl : l.length = K) (hK : K ≤ 64) (hK1 : 1 ≤ K) :
    Calls Try.prog 31 #[.slice (some ⟨G, 0, none⟩) K cap] w fun e w' => e = .returned (.tuple #[]) ∧ OwnI base (.slice (some ⟨G, 0, none⟩) K cap) (l.mergeSort fun x y => decide (x ≤ y)) w' ∧ ∀ B u, Below B u w → B ≤ G → Below B u w' := by
  obtain ⟨g0, c0, e0, hbg, hGs, hat, hfr⟩ := ho.at (by intro e; rw [e] at hl; simp at hl; omega)
  cases e0
  have hH : Holds (Value.int .i64) w G 0 l.toArray := fun j hj => by
    have hj2 : j < l.length := hj
    rw [Nat.zero_add]
    refine ⟨?_, hfr j⟩
    rw [hat j hj2, getElem!_pos l.toArray j hj, List.getElem_toArray, List.getD_eq_getElem?_getD, List.getElem?_eq_getElem hj2, Option.getD_some]
  refine (sortS G 0 cap l w hH hGs (by omega)).mono ?_
  rintro e w' ⟨rfl, n, os, hw'⟩
  have hlen : (l.mergeSort fun x y => decide (x ≤ y)).length = l.length := List.length_mergeSort l
  obtain ⟨l', hl'⟩ : ∃ l', l' = l.mergeSort fun x y => decide (x ≤ y) := ⟨_, rfl⟩
  rw [← hl'] at hw' hlen ⊢
  clear hl'
  have hw2 : w' = sortWorld (Value.int .i64) w G 0 n l'.toArray os := hw'
  refine ⟨rfl, ?_, fun B u hb hB => by rw [hw2]; exact sortWorld_bel (Value.int .i64) hb hB hGs⟩
  rw [hw2]
  refine sorted_own (d0 := l.toArray) (Value.int .i64) ho rfl hlen hlen rfl hH (fun i hi => ?_)
  have hi2 : i < l'.length := by omega
  rw [getElem!_pos l'.toArray i hi2, List.getElem_toArray, List.getD_eq_getElem?_getD, List.getElem?_eq_getElem hi2, Option.getD_some]

theorem srt_pre (m : Nat) : ∀ d k, srt m k <+: srt m (k + d)
  | 0, _ => List.prefix_refl _
  | d + 1, k => (srt_pre m d k).trans (List.prefix_append _ _)
theorem flt_perm {m k : Nat} (hm : m ≤ 5) (hk : k ≤ 2 ^ m) : ((List.range (2 ^ m)).filter fun j => (srt m k).contains j).Perm (srt m k) := by
  obtain ⟨h1, h2⟩ := srt_all hm
  have hp : srt m k <+: srt m (2 ^ m) := by have := srt_pre m (2 ^ m - k) k; rw [Nat.add_sub_cancel' hk] at this; exact this
  have hn : (srt m (2 ^ m)).Nodup := h1.symm.nodup List.nodup_range
  refine (List.perm_ext_iff_of_nodup (List.nodup_range.filter _) (hn.sublist hp.sublist)).2 (fun a => ?_)
  rw [List.mem_filter, List.contains_iff_mem]
  exact ⟨fun h => h.2, fun h => ⟨h1.subset (hp.subset h), h⟩⟩
theorem flt_sort {m k : Nat} (hm : m ≤ 5) (hk : k ≤ 2 ^ m) : ((intL (srt m k)).mergeSort fun x y => decide (x ≤ y)) = flt (srt m k) (2 ^ m) := by
  have h := flt_perm hm hk
  refine List.Perm.eq_of_pairwise (le := fun a b : Int => a ≤ b) (fun a b _ _ x y => Int.le_antisymm x y) ?_ ?_ ?_
  · exact (List.pairwise_mergeSort (le := fun x y : Int => decide (x ≤ y)) (fun a b c h1 h2 => by simp only [decide_eq_true_eq] at *; omega) (fun a b => by simp only [Bool.or_eq_true, decide_eq_true_eq]; omega) _).imp (fun h => by simpa using h)
  · unfold flt
    rw [List.pairwise_map]
    exact (List.Pairwise.filter _ List.pairwise_lt_range).imp (fun {a b} h => by omega)
  · refine (List.mergeSort_perm _ _).trans ?_
    exact (h.map _).symm
end Go.Proofs.Ytbfkacnpbelmlaa

/- Polar: slices.SortFunc with the comparator of Best. -/
namespace Go.Proofs.Ytbfkacnpbelmlaa
open Go.Shelf Go.RowKit Go.Lib Go.Sort

theorem ext_all {α : Type} (d : Array α) {n : Nat} (h : d.size = n) : d.extract 0 n = d := by subst h; exact Array.extract_size
theorem sortFS {α : Type} [Inhabited α] (enc : α → Value) (h1 : OneCell enc) (cf : α → α → Int) (hO : SWO (ltOf cf)) (g : Nat) (cb : Array Value) (blk off cap : Nat) (d : Array α) (w : World) (eg : ∀ args w, (callFunc g args).run Try.prog w = .ok (.enter g args) w) (hcmp : CmpLays1 Try.prog g cb enc cf blk off d.size w) (hH : Holds enc w blk off d) (hblk : blk < w.heap.size) (hsz : d.size < 4611686018427387904) :
    Calls Try.prog 26 #[.slice (some ⟨blk, off, none⟩) d.size cap, .func (.func g) #[] cb] w fun e w' =>
      e = .returned (.tuple #[]) ∧ ∃ d' n os, PermIn 0 d.size d d' ∧ SortedIn (ltOf cf) 0 d.size d' ∧ w' = sortWorld enc w blk off n d' os := Any.slices_SortFunc sortI enc h1 cf hO g cb blk off cap d w eg hcmp hH hblk hsz
set_option maxHeartbeats 4000000 in
theorem bsort_any {m N base G cap cb b o c : Nat} {w : World} (hm : m ≤ 5) (hN : N = 2 ^ m) (ho : OwnI base (.slice (some ⟨G, 0, none⟩) N cap) (zl N fun i => ((i : Nat) : Int)) w) (hcell : w.cell? ⟨cb, 0, none⟩ = some (.slice (some ⟨b, o, none⟩) N c)) (hch : ∀ i, i < N → w.cell? ⟨b, o + i, none⟩ = some (.int .i64 ((lss m).getD i 0 : Nat))) (hbG : b ≠ G) (hcG : cb ≠ G) :
    Calls Try.prog 26 #[.slice (some ⟨G, 0, none⟩) N cap, .func (.func 27) #[] #[.pointer (some ⟨cb, 0, none⟩)]] w fun e w' => e = .returned (.tuple #[]) ∧ OwnI base (.slice (some ⟨G, 0, none⟩) N cap) (intL (srt m N)) w' ∧ ∀ B u, Below B u w → B ≤ G → Below B u w' := by
  have hN1 : 1 ≤ N := by rw [hN]; exact Nat.pow_pos (by omega)
  have hN2 : N ≤ 32 := by rw [hN]; exact Nat.le_trans (Nat.pow_le_pow_right (by omega) hm) (by decide)
  have inh : Inhabited (Plc N) := ⟨⟨0, hN1⟩⟩
  obtain ⟨d, hd⟩ : ∃ d : Array (Plc N), d = Array.ofFn (n := N) fun i => (⟨i.1, i.2⟩ : Plc N) := ⟨_, rfl⟩
  have hds : d.size = N := by rw [hd]; exact Array.size_ofFn
  have hdi : ∀ i, i < N → (d[i]!).1 = i := fun i hi => by
    have hi2 : i < d.size := by omega
    rw [getElem!_pos d i hi2]
    have e : d[i] = (⟨i, hi⟩ : Plc N) := by
      subst hd
      exact Array.getElem_ofFn _
    rw [e]
  obtain ⟨g0, c0, e0, hbg, hGs, hat, hfr⟩ := ho.at (by intro e; have := congrArg List.length e; rw [zl_len] at this; simp at this; omega)
  rw [zl_len] at e0
  cases e0
  have hH : Holds Plc.enc w G 0 d := fun j hj => by
    have hj2 : j < N := by omega
    rw [Nat.zero_add]
    refine ⟨?_, hfr j⟩
    rw [hat j (by rw [zl_len]; exact hj2), zl_getD _ _ _ hj2]
    unfold Plc.enc
    rw [hdi j hj2]
  have hcmp : CmpLays1 Try.prog 27 #[.pointer (some ⟨cb, 0, none⟩)] (Plc.enc (N := N)) (Plc.cf (lss m)) G 0 d.size w := fun mm os dk _ x y => by
    have k1 : cb < w.heap.size := cell_lt hcell
    have k2 : b < w.heap.size := cell_lt (hch 0 hN1)
    show Calls Try.prog _ #[.int .i64 (x.1 : Nat), .int .i64 (y.1 : Nat), .pointer (some ⟨cb, 0, none⟩)] _ _
    refine (best1_any (N := N) (c := c) (b := b) (o := o) (lx := ((lss m).getD x.1 0 : Nat)) (ly := ((lss m).getD y.1 0 : Nat)) x.2 y.2 ?_ ?_ ?_).mono ?_
    · exact (cell_of_at (p := ⟨cb, 0, none⟩) (sortWorld_at Plc.enc k1 hcG)).trans hcell
    · exact (cell_of_at (p := ⟨b, o + x.1, none⟩) (sortWorld_at Plc.enc k2 hbG)).trans (hch x.1 x.2)
    · exact (cell_of_at (p := ⟨b, o + y.1, none⟩) (sortWorld_at Plc.enc k2 hbG)).trans (hch y.1 y.2)
    · rintro e w' ⟨rfl, ob, hw'⟩
      exact ⟨rfl, 1, #[ob], hw'⟩
  have hcon := sortFS Plc.enc (fun x => rfl) (Plc.cf (lss m)) (Plc.swo (lss m)) 27 #[.pointer (some ⟨cb, 0, none⟩)] G 0 cap d w enters_best1 hcmp hH hGs (by omega)
  rw [hds] at hcon
  refine hcon.mono ?_
  rintro e w' ⟨rfl, d', n, os, hp, hs, hw'⟩
  have hd's : d'.size = N := hp.1.trans hds
  have hL : d'.toList.map (fun x => x.1) = srt m N := by
    refine (srt_one hm (L := d'.toList.map (fun x => x.1)) ?_ ?_).trans (by rw [← hN])
    · have h3 := hp.2.2
      rw [ext_all d' hd's, ext_all d hds] at h3
      refine (h3.map _).trans ?_
      rw [show d.toList.map (fun x => x.1) = List.range (2 ^ m) from ?_]
      apply List.ext_getElem?
      intro i
      rw [List.getElem?_map, Array.getElem?_toList, ← hN]
      by_cases hi : i < N
      · rw [List.getElem?_range hi, Array.getElem?_eq_getElem (by omega)]
        have := hdi i hi
        rw [getElem!_pos d i (by omega)] at this
        exact congrArg some this
      · rw [Array.getElem?_eq_none (by omega), List.getElem?_eq_none (by rw [List.length_range]; omega)]; rfl
    · rw [List.pairwise_map, List.pairwise_iff_getElem]
      intro i j hi hj hij
      rw [Array.length_toList] at hi hj
      have h3 := hs i j (Nat.zero_le _) hij (by omega)
      rw [Plc.lt, decide_eq_false_iff_not, getElem!_pos d' i hi, getElem!_pos d' j hj] at h3
      exact h3
  refine ⟨rfl, ?_, fun B u hb hB => by rw [hw']; exact sortWorld_bel Plc.enc hb hB hGs⟩
  rw [hw']
  refine sorted_own (d0 := d) Plc.enc ho (by rw [zl_len]) ?_ hd's hds hH (fun i hi => ?_)
  · rw [← hL]; unfold intL; rw [List.length_map, List.length_map, Array.length_toList, hd's]
  · unfold Plc.enc intL
    rw [← hL, List.getD_eq_getElem?_getD, List.getElem?_map, List.getElem?_map, Array.getElem?_toList, Array.getElem?_eq_getElem (by omega), getElem!_pos d' i (by omega)]
    rfl

end Go.Proofs.Ytbfkacnpbelmlaa
