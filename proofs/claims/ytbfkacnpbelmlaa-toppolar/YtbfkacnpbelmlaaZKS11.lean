/- Texts of ours, one behind the other: KS11 KS12. -/
import Derived.Test.YtbfkacnpbelmlaaZKS10
/- Polar: slices.SortFunc with the comparator of Best. -/
namespace Go.Proofs.Ytbfkacnpbelmlaa
open Go.Shelf Go.RowKit Go.Lib Go.Sort

theorem ext_all {α : Type} (d : Array α) {n : Nat} (h : d.size = n) : d.extract 0 n = d := by subst h; exact Array.extract_size
theorem sortFS {α : Type} [Inhabited α] (enc : α → Value) (h1 : OneCell enc) (cf : α → α → Int) (hO : SWO (ltOf cf)) (g : Nat) (cb : Array Value) (blk off cap : Nat) (d : Array α) (w : World) (eg : ∀ args w, (callFunc g args).run Try.prog w = .ok (.enter g args) w) (hcmp : CmpLays1 Try.prog g cb enc cf blk off d.size w) (hH : Holds enc w blk off d) (hblk : blk < w.heap.size) (hsz : d.size < 4611686018427387904) :
    Calls Try.prog 26 #[.slice (some ⟨blk, off, none⟩) d.size cap, .func (.func g) #[] cb] w fun e w' =>
      e = .returned (.tuple #[]) ∧ ∃ d' n os, PermIn 0 d.size d d' ∧ SortedIn (ltOf cf) 0 d.size d' ∧ w' = sortWorld enc w blk off n d' os := Any.slices_SortFunc sortI enc h1 cf hO g cb blk off cap d w eg hcmp hH hblk hsz
set_option maxHeartbeats 4000000 in
theorem bsort_any {m N base G cap cb b o c : Nat} {w : World} (hm : m ≤ 5) (hN : N = 2 ^ m) (ho : OwnI base (.slice (some ⟨G, 0, none⟩) N cap) (zl N fun i => ((i : Nat) : Int)) w) (hcell : w.cell? ⟨cb, 0, none⟩ = some (.slice (some ⟨b, o, none⟩) N c)) (hch : ∀ i, i < N → w.cell? ⟨b, o + i, none⟩ = some (.int .i64 ((lss m).getD i 0 : Nat))) (hbG : b ≠ G) (hcG : cb ≠ G) :
    Calls Try.prog 26 #[.slice (some ⟨G, 0, none⟩) N cap, .func (.func 27) #[] #[.pointer (some ⟨cb, 0, none⟩)]] w fun e w' => e = .returned (.tuple #[]) ∧ OwnI base (.slice (some ⟨G, 0, none⟩) N cap) (intL (srt m N)) w' ∧ ∀ B u, Below B u w → B ≤ G → Below B u w' := by
  have hN1 : 1 ≤ N := by rw [hN]; exact Nat.pow_pos (by omega)
  have hN2 : N ≤ 32 := by rw [hN]; exact Nat.le_trans (Nat.pow_le_pow_right (by omega) hm) (by decide)
  have inh : Inhabited (Plc N) := ⟨⟨0, hN1⟩⟩
  obtain ⟨d, hd⟩ : ∃ d : Array (Plc N), d = Array.ofFn (n := N) fun i => (⟨i.1, i.2⟩ : Plc N) := ⟨_, rfl⟩
  have hds : d.size = N := by rw [hd]; exact Array.size_ofFn
  have hdi : ∀ i, i < N → (d[i]!).1 = i := fun i hi => by
    have hi2 : i < d.size := by omega
    rw [getElem!_pos d i hi2]
    have e : d[i] = (⟨i, hi⟩ : Plc N) := by
      subst hd
      exact Array.getElem_ofFn _
    rw [e]
  obtain ⟨g0, c0, e0, hbg, hGs, hat, hfr⟩ := ho.at (by intro e; have := congrArg List.length e; rw [zl_len] at this; simp at this; omega)
  rw [zl_len] at e0
  cases e0
  have hH : Holds Plc.enc w G 0 d := fun j hj => by
    have hj2 : j < N := by omega
    rw [Nat.zero_add]
    refine ⟨?_, hfr j⟩
    rw [hat j (by rw [zl_len]; exact hj2), zl_getD _ _ _ hj2]
    unfold Plc.enc
    rw [hdi j hj2]
  have hcmp : CmpLays1 Try.prog 27 #[.pointer (some ⟨cb, 0, none⟩)] (Plc.enc (N := N)) (Plc.cf (lss m)) G 0 d.size w := fun mm os dk _ x y => by
    have k1 : cb < w.heap.size := cell_lt hcell
    have k2 : b < w.heap.size := cell_lt (hch 0 hN1)
    show Calls Try.prog _ #[.int .i64 (x.1 : Nat), .int .i64 (y.1 : Nat), .pointer (some ⟨cb, 0, none⟩)] _ _
    refine (best1_any (N := N) (c := c) (b := b) (o := o) (lx := ((lss m).getD x.1 0 : Nat)) (ly := ((lss m).getD y.1 0 : Nat)) x.2 y.2 ?_ ?_ ?_).mono ?_
    · exact (cell_of_at (p := ⟨cb, 0, none⟩) (sortWorld_at Plc.enc k1 hcG)).trans hcell
    · exact (cell_of_at (p := ⟨b, o + x.1, none⟩) (sortWorld_at Plc.enc k2 hbG)).trans (hch x.1 x.2)
    · exact (cell_of_at (p := ⟨b, o + y.1, none⟩) (sortWorld_at Plc.enc k2 hbG)).trans (hch y.1 y.2)
    · rintro e w' ⟨rfl, ob, hw'⟩
      exact ⟨rfl, 1, #[ob], hw'⟩
  have hcon := sortFS Plc.enc (fun x => rfl) (Plc.cf (lss m)) (Plc.swo (lss m)) 27 #[.pointer (some ⟨cb, 0, none⟩)] G 0 cap d w enters_best1 hcmp hH hGs (by omega)
  rw [hds] at hcon
  refine hcon.mono ?_
  rintro e w' ⟨rfl, d', n, os, hp, hs, hw'⟩
  have hd's : d'.size = N := hp.1.trans hds
  have hL : d'.toList.map (fun x => x.1) = srt m N := by
    refine (srt_one hm (L := d'.toList.map (fun x => x.1)) ?_ ?_).trans (by rw [← hN])
    · have h3 := hp.2.2
      rw [ext_all d' hd's, ext_all d hds] at h3
      refine (h3.map _).trans ?_
      rw [show d.toList.map (fun x => x.1) = List.range (2 ^ m) from ?_]
      apply List.ext_getElem?
      intro i
      rw [List.getElem?_map, Array.getElem?_toList, ← hN]
      by_cases hi : i < N
      · rw [List.getElem?_range hi, Array.getElem?_eq_getElem (by omega)]
        have := hdi i hi
        rw [getElem!_pos d i (by omega)] at this
        exact congrArg some this
      · rw [Array.getElem?_eq_none (by omega), List.getElem?_eq_none (by rw [List.length_range]; omega)]; rfl
    · rw [List.pairwise_map, List.pairwise_iff_getElem]
      intro i j hi hj hij
      rw [Array.length_toList] at hi hj
      have h3 := hs i j (Nat.zero_le _) hij (by omega)
      rw [Plc.lt, decide_eq_false_iff_not, getElem!_pos d' i hi, getElem!_pos d' j hj] at h3
      exact h3
  refine ⟨rfl, ?_, fun B u hb hB => by rw [hw']; exact sortWorld_bel Plc.enc hb hB hGs⟩
  rw [hw']
  refine sorted_own (d0 := d) Plc.enc ho (by rw [zl_len]) ?_ hd's hds hH (fun i hi => ?_)
  · rw [← hL]; unfold intL; rw [List.length_map, List.length_map, Array.length_toList, hd's]
  · unfold Plc.enc intL
    rw [← hL, List.getD_eq_getElem?_getD, List.getElem?_map, List.getElem?_map, Array.getElem?_toList, Array.getElem?_eq_getElem (by omega), getElem!_pos d' i (by omega)]
    rfl

end Go.Proofs.Ytbfkacnpbelmlaa

/- Polar: Best. -/
namespace Go.Proofs.Ytbfkacnpbelmlaa
open Go.RowKit Go.Sort

end Go.Proofs.Ytbfkacnpbelmlaa
