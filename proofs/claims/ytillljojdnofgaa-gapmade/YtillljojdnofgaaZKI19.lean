/- Words in order: slices.SortFunc of words leaves them in order. -/
import Derived.Test.YtillljojdnofgaaZKI18
namespace Go.Proofs.Ytillljojdnofgaa
open Go.Shelf Go.RowKit Go.Lib Go.Sort

theorem enters_compare : ∀ args w, (callFunc 58 args).run Try.prog w = .ok (.enter 58 args) w :=
  enters_of Try.func58 (by kernel_rfl) rfl
theorem PLf_list {m : Nat} {w : World} [Inhabited (WKy m w)] (d : Array (WKy m w)) : PLf (fun i => (d[i]!).enc) (fun i => (d[i]!).key) 0 d.size = d.toList.map fun x => (x.enc, x.key) := by
  unfold PLf
  apply List.ext_getElem?
  intro i
  by_cases hi : i < d.size
  · rw [List.getElem?_map, List.getElem?_range hi, List.getElem?_map, Array.getElem?_toList, Array.getElem?_eq_getElem hi]
    simp [getElem!_pos, hi]
  · rw [List.getElem?_eq_none (by simp; omega), List.getElem?_eq_none (by simp; omega)]

set_option maxHeartbeats 4000000 in
theorem ssort_any {m base G K cap : Nat} {vs : Nat → Value} {ks : Nat → Nat} {w : World} (hm : m ≤ 13) (hK1 : 1 ≤ K) (hK : K ≤ 100) (ho : OwnV base (.slice (some ⟨G, 0, none⟩) K cap) (vl K vs) w) (hw : ∀ i, i < K → WdK m (vs i) (ks i) w) :
    Calls Try.prog 57 #[.slice (some ⟨G, 0, none⟩) K cap, .func (.func 58) #[] #[]] w fun e w' => e = .returned (.tuple #[]) ∧ SrP m base G K cap vs ks w w' := by
  obtain ⟨_, hKc, hcm, hbG, hGs⟩ := ho.bounds
  obtain ⟨d, hd⟩ : ∃ d : Array (WKy m w), d = Array.ofFn (n := K) fun i => ⟨(vs i.1, ks i.1), hw i.1 i.2⟩ := ⟨_, rfl⟩
  have hds : d.size = K := by rw [hd]; exact Array.size_ofFn
  have inh : Inhabited (WKy m w) := ⟨⟨(vs 0, ks 0), hw 0 (by omega)⟩⟩
  have hdi : ∀ i, i < K → (d[i]!).enc = vs i ∧ (d[i]!).key = ks i := fun i hi => by
    have hi2 : i < d.size := by omega
    rw [getElem!_pos d i hi2]
    have e : d[i] = (⟨(vs i, ks i), hw i hi⟩ : WKy m w) := by
      subst hd
      exact Array.getElem_ofFn _
    rw [e]; exact ⟨rfl, rfl⟩
  have hH : Holds WKy.enc w G 0 d := fun j hj => by
    have hj2 : j < K := by omega
    rw [Nat.zero_add, (hdi j hj2).1]
    exact ho.at hj2
  have hcmp : CmpReads Try.prog 58 #[] (WKy.enc (m := m) (w := w)) WKy.cf G 0 d.size w := fun mm os dk _ x y => by
    have hof : OfG G w (sortWorld WKy.enc w G 0 mm dk os) := sortWorld_ofG WKy.enc hGs
    obtain ⟨cx, h1, h2, h3⟩ := x.2.ofG ho hof
    obtain ⟨cy, k1, k2, k3⟩ := y.2.ofG ho hof
    obtain ⟨xo, xc, e1, a1⟩ := OwnI.argL (n := m) (y := fun j => ((cx j : Nat) : Int)) h1
    obtain ⟨yo, yc, e2, a2⟩ := OwnI.argL (n := m) (y := fun j => ((cy j : Nat) : Int)) k1
    show Calls Try.prog _ #[x.1.1, y.1.1] _ _
    rw [e1, e2]
    refine (scompare_any a1.sl a2.sl hm h2 k2).mono ?_
    rintro e w' ⟨rfl, hw'⟩
    refine ⟨?_, 0, hw'⟩
    rw [h3, k3]; rfl
  have hcon := Any.slices_SortFunc sortL WKy.enc (fun x => x.2.one) WKy.cf WKy.swo 58 #[] G 0 cap d w enters_compare hcmp.lays hH hGs (by omega)
  rw [hds] at hcon
  change Calls Try.prog 57 _ _ _ at hcon
  refine hcon.mono ?_
  rintro e w' ⟨rfl, d', n, os, hp, hs, hw'⟩
  have hd's : d'.size = K := hp.1.trans hds
  have hof : OfG G w w' := by rw [hw']; exact sortWorld_ofG WKy.enc hGs
  refine ⟨rfl, fun i => (d'[i]!).enc, fun i => (d'[i]!).key, ?_, ?_, fun i j h1 h2 => ?_, fun i _ => (d'[i]!).2.ofG ho hof, hof⟩
  · have hH' : Holds WKy.enc w' G 0 d' := by rw [hw']; exact holds_sortWorld WKy.enc w G 0 n d d' os hGs hH (by omega)
    rcases ho.2 with ⟨h1, _⟩ | ⟨g, c, cur, hv, hg, hh, hle, hcm2, hsz, htake⟩
    · cases h1
    · rw [vl_len] at hv hle
      cases hv
      obtain ⟨cur', hh', hs'⟩ : ∃ cur' : Array Value, w'.heap[G]? = some (.cells cur' 22 (0, 0)) ∧ cur'.size = cur.size := by
        rw [hw']
        unfold sortWorld grow putRow mapBlock Sort.ahead
        refine ⟨putCells WKy.enc 0 d' cur, ?_, by unfold putCells; simp⟩
        show (w.heap.modify G _ ++ os)[G]? = _
        rw [Array.getElem?_append_left (by simpa using hGs), Array.getElem?_modify, if_pos rfl, hh]
        rfl
      refine ⟨by rw [vl_len]; omega, Or.inr ⟨G, cap, cur', by rw [vl_len], hg, hh', by rw [vl_len]; exact hle, hcm2, by omega, ?_⟩⟩
      rw [vl_len]
      apply List.ext_getElem?
      intro i
      rw [List.getElem?_take]
      by_cases hi : i < K
      · rw [if_pos (by omega), vl_get K _ i hi, Array.getElem?_toList]
        have h := (hH' i (by omega)).1
        rw [Nat.zero_add, cell_of_row w' G i cur' 22 (0, 0) hh'] at h
        exact h
      · rw [if_neg (by omega), List.getElem?_eq_none (by rw [vl_len]; omega)]
  · have e1 := PLf_list d'
    have e2 := PLf_list d
    rw [hd's] at e1
    rw [hds] at e2
    rw [PLf_congr (us := vs) (js := ks) (i := 0) (fun t ht => by rw [Nat.zero_add]; exact hdi t ht)] at e2
    rw [e1, e2]
    have h3 := hp.2.2
    rw [show (d'.extract 0 K) = d' by rw [← hd's]; exact Array.extract_size, show (d.extract 0 K) = d by rw [← hds]; exact Array.extract_size] at h3
    exact h3.map _
  · have h3 := hs i j (Nat.zero_le _) h1 h2
    rw [WKy.lt] at h3
    have h4 := of_decide_eq_false h3
    exact Nat.le_of_not_lt h4
end Go.Proofs.Ytillljojdnofgaa
