/- Texts of ours, one behind the other: KU22 KU23. -/
import Derived.Test.YtpgaakjldlcejaaDoorZS81
import Derived.Test.YtpgaakjldlcejaaDoorZKU16
import Derived.Test.YtpgaakjldlcejaaDoorZS62
import Derived.Test.YtpgaakjldlcejaaDoorZKR10
import Derived.Test.YtpgaakjldlcejaaDoorZA1
import Derived.Test.YtpgaakjldlcejaaDoorZKU6
/- TopDesigns: the blocks of both codes are the octads and the hexads. -/
namespace Go.Proofs.YtpgaakjldlcejaaDoor
open Go.RowKit Go.Sort

theorem enw_conz {D : FD} {R : Nat → Nat → Nat} {z y : Nat → Nat} : ∀ {k : Nat}, (∀ i, i < k → z i = y i) → enw D R z k = enw D R y k
  | 0, _ => rfl
  | k + 1, h => by
    show padd D (enw D R z k) _ = padd D (enw D R y k) _
    rw [enw_conz (fun i hi => h i (by omega)), h k (by omega)]
theorem zer_at (n j : Nat) : lsf (List.replicate n 0) j = 0 := by
  unfold lsf
  by_cases c : j < n
  · simp [List.getD_eq_getElem?_getD, c]
  · rw [List.getD_eq_getElem?_getD, List.getElem?_eq_none (by simp; omega)]; rfl
/-- A word as a list, by its message. -/
theorem word_lac {D : FD} (F : Fld D) {L : List (List Nat)} {n : Nat} (hn : 0 < n) (hL : (L.all fun l => l.length == n) = true) (ha : ∀ a b, a < D.q → b < D.q → D.ad a b = (a + b) % D.q) (hu : ∀ a b, a < D.q → b < D.q → D.mul a b = a * b % D.q) (hR : ∀ i, El D (lrs L i)) {r : Nat} {m : Nat → Nat} (hm : El D m) (hd : ∀ i, i < L.length → m i = dgs D.q L.length r i) :
    lwt (lac D.q m L 0 (List.replicate n 0)) = wgr D (lrs L) n L.length r ∧ lst (lac D.q m L 0 (List.replicate n 0)) = wst D (lrs L) n L.length r := by
  have h := lac_is hn hL ha hu F hm hR L.length 0 (List.replicate n 0) (by omega) (by simp) (fun j => zer_at n j)
  rw [List.drop_zero] at h
  have e : lsf (lac D.q m L 0 (List.replicate n 0)) = wdr D (lrs L) L.length r := by
    unfold wdr
    rw [← enw_conz hd]
    exact funext h.2
  constructor
  · rw [← lwt_is, h.1, e]; rfl
  · rw [lst_nzs h.1, e]; rfl
theorem gsl_gcl {D : FD} (F : Fld D) {L : List (List Nat)} {n wt x : Nat} (hn : 0 < n) (hL : (L.all fun l => l.length == n) = true) (ha : ∀ a b, a < D.q → b < D.q → D.ad a b = (a + b) % D.q) (hu : ∀ a b, a < D.q → b < D.q → D.mul a b = a * b % D.q) (hR : ∀ i, El D (lrs L i)) :
    x ∈ gsl D (lrs L) n L.length wt (D.q ^ L.length) ↔ x ∈ gcl D.q wt L (List.replicate n 0) := by
  have hq := F.q2
  rw [gsl_mem, gcl_mem (by omega) L 0]
  constructor
  · rintro ⟨r, _, h2, h3⟩
    have h := word_lac F hn hL ha hu hR (r := r) (dgs_el F L.length r) (fun _ _ => rfl)
    exact ⟨dgs D.q L.length r, dgs_el F _ _, by rw [h.1]; exact h2, by rw [h.2]; exact h3⟩
  · rintro ⟨m, h1, h2, h3⟩
    have h := word_lac F hn hL ha hu hR (r := hnm D.q m L.length) (m := m) h1 (fun i hi => hnm_dgs hq (fun j _ => h1 j) i hi)
    exact ⟨hnm D.q m L.length, hnm_lt _ (fun j _ => h1 j), by rw [← h.1]; exact h2, by rw [← h.2]; exact h3⟩
theorem gsl_ndD (D : FD) (R : Nat → Nat → Nat) (n k wt : Nat) : ∀ N, (gsl D R n k wt N).Nodup
  | 0 => List.nodup_nil
  | N + 1 => by
    show (if wgr D R n k N = wt then addL (gsl D R n k wt N) (wst D R n k N) else gsl D R n k wt N).Nodup
    have ih := gsl_ndD D R n k wt N
    split
    · unfold addL
      split
      · exact ih
      · rename_i c
        rw [List.nodup_append]
        refine ⟨ih, by simp, fun a ha b hb e => c ?_⟩
        rw [List.mem_singleton.1 hb] at e
        rw [← e]; exact List.contains_iff_mem.2 ha
    · exact ih
theorem gsl_conD {D : FD} {R R' : Nat → Nat → Nat} {n k wt : Nat} (h : wdr D R k = wdr D R' k) : ∀ N, gsl D R n k wt N = gsl D R' n k wt N
  | 0 => rfl
  | N + 1 => by
    show (if wgr D R n k N = wt then addL (gsl D R n k wt N) (wst D R n k N) else gsl D R n k wt N) = (if wgr D R' n k N = wt then addL (gsl D R' n k wt N) (wst D R' n k N) else gsl D R' n k wt N)
    have e1 : wgr D R n k N = wgr D R' n k N := by unfold wgr; rw [h]
    have e2 : wst D R n k N = wst D R' n k N := by unfold wst wnz; rw [h]
    rw [gsl_conD h N, e1, e2]
theorem oct_perm : (gsl F2 (lrs F2L) 24 12 8 (F2.q ^ 12)).Perm octL := by
  refine (List.perm_ext_iff_of_nodup (gsl_ndD _ _ _ _ _ _) (ndB_nd oct_nd)).2 fun x => ?_
  have h := gsl_gcl (fld F2_in) (L := F2L) (n := 24) (wt := 8) (x := x) (by omega) (by decide +kernel) (fun _ _ => F2_ad6) (fun _ _ => F2_mu6) (lrs_el (fld F2_in) (by decide +kernel))
  rw [← leqB_eq oct_gcl]
  exact h
theorem hex_perm : (gsl F3 (lrs F3L) 12 6 6 (F3.q ^ 6)).Perm hexL := by
  refine (List.perm_ext_iff_of_nodup (gsl_ndD _ _ _ _ _ _) (ndB_nd hex_nd)).2 fun x => ?_
  have h := gsl_gcl (fld F3_in) (L := F3L) (n := 12) (wt := 6) (x := x) (by omega) (by decide +kernel) (fun _ _ => F3_ad6) (fun _ _ => F3_mu6) (lrs_el (fld F3_in) (by decide +kernel))
  have h2 : x ∈ gcl 3 6 F3L (List.replicate 12 0) ↔ x ∈ hexL := by
    rw [leqB_eq hex_gcl]
    exact ⟨fun q => elB_mem.1 (List.all_eq_true.1 hex_sub x q), fun q => elB_mem.1 (List.all_eq_true.1 hex_sup x q)⟩
  exact h.trans h2
/-- Lists of lists that are blocks. -/
def BkO (v : Value) (wt : Nat) (O : List Nat) (w : World) : Prop := ∃ base A, KLm base v wt A w ∧ A.Perm (O.map fun s => kyP (plN s))
theorem BkO.below {v : Value} {wt : Nat} {O : List Nat} {w w' : World} (h : BkO v wt O w) (hb : Below w.heap.size w w') : BkO v wt O w' := by
  obtain ⟨base, A, h1, h2⟩ := h
  exact ⟨base, A, h1.below hb, h2⟩
/-- Sets of wt places below n. -/
def OkO (O : List Nat) (n wt : Nat) : Prop := ∀ s ∈ O, s < 2 ^ 64 ∧ (plN s).length = wt ∧ ∀ x ∈ plN s, x < n
theorem oct_ok : OkO octL 24 8 := fun s hs => by
  have h : (octL.all fun s => decide (s < 2 ^ 64) && decide ((plN s).length = 8) && (plN s).all fun x => decide (x < 24)) = true := by decide +kernel
  have h1 := List.all_eq_true.1 h s hs
  simp only [Bool.and_eq_true, decide_eq_true_eq] at h1
  exact ⟨h1.1.1, h1.1.2, fun x hx => of_decide_eq_true (List.all_eq_true.1 h1.2 x hx)⟩
theorem hex_ok : OkO hexL 12 6 := fun s hs => by
  have h : (hexL.all fun s => decide (s < 2 ^ 64) && decide ((plN s).length = 6) && (plN s).all fun x => decide (x < 12)) = true := by decide +kernel
  have h1 := List.all_eq_true.1 h s hs
  simp only [Bool.and_eq_true, decide_eq_true_eq] at h1
  exact ⟨h1.1.1, h1.1.2, fun x hx => of_decide_eq_true (List.all_eq_true.1 h1.2 x hx)⟩
theorem dgs_ky {P : List Nat} {m : Nat} (hm : P.length = m) (hP : ∀ x ∈ P, x < 64) {j : Nat} (hj : j < m) : dgs 64 m (kyP P) j = P.getD j 0 := by
  have lt : ∀ i, i < m → P.getD i 0 < 64 := fun i hi => by
    rw [List.getD_eq_getElem?_getD, List.getElem?_eq_getElem (by omega)]; exact hP _ (List.getElem_mem _)
  have e : kyP P = dnum 64 (fun j => P.getD j 0) m := by unfold kyP; rw [hm]
  have h1 : kyP P < 64 ^ m := by rw [e]; exact dnum_lt m lt
  have h2 := dnum_dgs (q := 64) (by omega) h1
  exact dnum_inj m (fun i _ => dgs_lt (by omega) i) lt (h2.trans e) j hj
theorem sbt_bit {z : Nat → Int} (i : Nat) : ∀ k, (sbt z k).testBit i = true ↔ ∃ j, j < k ∧ (z j).toNat = i
  | 0 => ⟨fun h => (by rw [show sbt z 0 = 0 from rfl, Nat.zero_testBit] at h; cases h), fun ⟨_, h, _⟩ => absurd h (by omega)⟩
  | k + 1 => by
    show (sbt z k ||| 2 ^ (z k).toNat).testBit i = true ↔ _
    rw [Nat.testBit_or, Bool.or_eq_true, sbt_bit i k]
    constructor
    · rintro (⟨j, h1, h2⟩ | h)
      · exact ⟨j, by omega, h2⟩
      · by_cases e : (z k).toNat = i
        · exact ⟨k, by omega, e⟩
        · rw [Nat.testBit_two_pow_of_ne e] at h; cases h
    · rintro ⟨j, h1, h2⟩
      by_cases e : j = k
      · rw [e] at h2; rw [h2]; exact Or.inr Nat.testBit_two_pow_self
      · exact Or.inl ⟨j, by omega, h2⟩
theorem sbt_set {s m : Nat} (hs : s < 2 ^ 64) (hm : (plN s).length = m) {z : Nat → Int} (hz : ∀ j, j < m → z j = (((plN s).getD j 0 : Nat) : Int)) : sbt z m = s := by
  refine Nat.eq_of_testBit_eq fun i => ?_
  have h1 := sbt_bit (z := z) i m
  have h2 : (∃ j, j < m ∧ (z j).toNat = i) ↔ i ∈ plN s := by
    constructor
    · rintro ⟨j, hj, e⟩
      rw [hz j hj, Int.toNat_natCast] at e
      rw [← e, List.getD_eq_getElem?_getD, List.getElem?_eq_getElem (by omega)]
      exact List.getElem_mem _
    · intro h
      obtain ⟨j, hj, e⟩ := List.mem_iff_getElem.1 h
      refine ⟨j, by omega, ?_⟩
      rw [hz j (by omega), Int.toNat_natCast, List.getD_eq_getElem?_getD, List.getElem?_eq_getElem hj]
      exact e
  have h3 : i ∈ plN s ↔ s.testBit i = true := by
    unfold plN
    rw [List.mem_filter, List.mem_range]
    constructor
    · exact fun h => h.2
    · intro h
      refine ⟨?_, h⟩
      rcases Nat.lt_or_ge i 64 with c | c
      · exact c
      · rw [Nat.testBit_lt_two_pow (Nat.lt_of_lt_of_le hs (Nat.pow_le_pow_right (by omega) c))] at h; cases h
  rw [Bool.eq_iff_iff]
  exact h1.trans (h2.trans h3)
/-- Blocks handed in again. -/
theorem KLm.matz {base m : Nat} {v : Value} {N : List Nat} {w : World} (h : KLm base v m N w) (hm : m ≤ 1000000) : ∃ ao cap A C, v = .slice ao N.length cap ∧ ∃ Z, MatZ ao N.length A (fun _ => m) C Z w ∧ ∀ i, i < N.length → ∀ j, j < m → Z i j = ((dgs 64 m (N.getD i 0) j : Nat) : Int) := by
  obtain ⟨ao, cap, e⟩ := h.form
  subst e
  have hi : ∀ i, ∃ (p : Option Addr × Nat × (Nat → Int)), i < N.length → (∃ g, ao = some ⟨g, 0, none⟩ ∧ w.cell? ⟨g, i, none⟩ = some (.slice p.1 m p.2.1)) ∧ ArgL p.1 m p.2.1 p.2.2 w ∧ ∀ j, j < m → p.2.2 j = ((dgs 64 m (N.getD i 0) j : Nat) : Int) := fun i => by
    by_cases c : i < N.length
    · obtain ⟨g, x, cx, e1, hc, hw⟩ := h.item c
      obtain ⟨d, h1, h2, h3⟩ := hw
      obtain ⟨so, sc, e2, hA⟩ := OwnI.argL (n := m) (y := fun j => ((d j : Nat) : Int)) h1
      cases e2
      refine ⟨(x, cx, _), fun _ => ⟨⟨g, e1, hc⟩, hA, fun j hj => ?_⟩⟩
      have h4 : N.getD i 0 < 64 ^ m := by rw [← h3]; exact dnum_lt m (fun j _ => h2 j)
      have h5 : dgs 64 m (N.getD i 0) j = d j := dnum_inj (q := 64) (c := dgs 64 m (N.getD i 0)) m (fun t _ => dgs_lt (by omega) t) (fun t _ => h2 t) ((dnum_dgs (q := 64) (by omega) h4).trans h3.symm) j hj
      show ((d j : Nat) : Int) = _
      rw [h5]
    · exact ⟨(none, 0, fun _ => 0), fun q => absurd q c⟩
  let P := fun i => Classical.choose (hi i)
  have hP := fun i => Classical.choose_spec (hi i)
  refine ⟨ao, cap, fun i => (P i).1, fun i => (P i).2.1, rfl, fun i => (P i).2.2, ⟨fun i hx => ?_, fun i hx => (hP i hx).2.1.sl, fun i hx => (hP i hx).2.1.le, fun i hx => (hP i hx).2.1.cap, fun i hx => (hP i hx).2.1.nil, fun _ _ => hm⟩, fun i hx => (hP i hx).2.2⟩
  obtain ⟨⟨g, e, hc⟩, _⟩ := hP i hx
  exact ⟨g, 0, e, by rw [Nat.zero_add]; exact hc⟩
theorem anG_none {p : Nat → Bool} : ∀ n, (∀ j, j < n → p j = false) → anG p n = false
  | 0, _ => rfl
  | n + 1, h => by
    show (anG p n || p n) = false
    rw [anG_none n (fun j hj => h j (by omega)), h n (by omega)]; rfl
/-- What Design tells of blocks that make a design. -/
theorem design_of {O : List Nat} {n wt t lam N : Nat} {v : Value} {w : World} (h : BkO v wt O w) (hO : OkO O n wt) (hN : O.length = N) (hN6 : N ≤ 4096) (hw : wt ≤ 64) (hn1 : 1 ≤ n) (hn : n ≤ 64) (ht : t ≤ n) (hs : smB n t = true) (hne : (sls n t 0 0).isEmpty = false) (hd : ∀ y ∈ sls n t 0 0, lic (fun i => O.getD i 0) y N = lam) :
    ∃ ao ca, v = .slice ao N ca ∧ ∀ wx, Below w.heap.size w wx → Calls Tryd.prog 8 #[.int .i64 (n : Nat), .slice ao N ca, .int .i64 (t : Nat)] wx fun e w' => e = .returned (.tuple #[.int .i64 (lam : Nat), .bool true, .int .i64 0]) ∧ Below wx.heap.size wx w' := by
  obtain ⟨base, A, h1, h2⟩ := h
  obtain ⟨ao, cap, A', C, e, Z, hM, hZ⟩ := h1.matz (by omega)
  have hAN : A.length = N := by rw [h2.length_eq, List.length_map, hN]
  rw [hAN] at e hM hZ
  refine ⟨ao, cap, e, fun wx hb => ?_⟩
  have hof : ∀ i, i < N → ∃ s ∈ O, A.getD i 0 = kyP (plN s) := fun i hi => by
    have hm : A.getD i 0 ∈ A := by
      rw [List.getD_eq_getElem?_getD, List.getElem?_eq_getElem (by omega)]; exact List.getElem_mem _
    obtain ⟨s, hs, e⟩ := List.mem_map.1 (h2.mem_iff.1 hm)
    exact ⟨s, hs, e.symm⟩
  have hz : ∀ i, i < N → ∀ s ∈ O, A.getD i 0 = kyP (plN s) → ∀ j, j < wt → Z i j = (((plN s).getD j 0 : Nat) : Int) := fun i hi s hs e j hj => by
    have h3 := hO s hs
    rw [hZ i hi j hj, e, dgs_ky h3.2.1 (fun x hx => by have := h3.2.2 x hx; omega) hj]
  have hpl : gpl (n : Int) (fun _ => wt) Z N = false := anG_none N fun i hi => anG_none wt fun j hj => by
    obtain ⟨s, hs, e⟩ := hof i hi
    have h3 := hO s hs
    have h4 : (plN s).getD j 0 < n := by
      rw [List.getD_eq_getElem?_getD, List.getElem?_eq_getElem (by omega)]; exact h3.2.2 _ (List.getElem_mem _)
    show (decide (Z i j < 0) || decide ((n : Int) ≤ Z i j)) = false
    rw [hz i hi s hs e j hj, decide_eq_false (by omega), decide_eq_false (by omega)]; rfl
  have hde : gde (n : Int) N (fun _ => wt) Z (t : Int) = 0 := by
    unfold gde
    rw [if_neg (by omega), if_neg (by rw [hpl]; decide), if_neg (by omega), Int.toNat_natCast, Int.toNat_natCast]
    unfold sme
    rw [if_pos hs]
  refine (design_ok (hM.below hb) (by omega) (fun _ _ => by omega) hn ht hpl hde).mono ?_
  rintro x w' ⟨hD, hb'⟩
  refine ⟨?_, hb'⟩
  have hmap : ((List.range N).map (bkf (fun _ => wt) Z)).Perm ((List.range N).map fun i => O.getD i 0) := by
    have e1 : (List.range N).map (bkf (fun _ => wt) Z) = A.map fun a => sbt (fun j => ((dgs 64 wt a j : Nat) : Int)) wt := by
      apply List.ext_getElem?
      intro i
      by_cases hi : i < N
      · rw [List.getElem?_map, List.getElem?_range hi, List.getElem?_map, List.getElem?_eq_getElem (by omega)]
        show some (sbt (Z i) wt) = some _
        have e3 : A[i]'(by omega) = A.getD i 0 := by rw [List.getD_eq_getElem?_getD, List.getElem?_eq_getElem (by omega)]; rfl
        obtain ⟨s, hs, e⟩ := hof i hi
        have h3 := hO s hs
        show some _ = some (sbt (fun j => ((dgs 64 wt (A[i]'(by omega)) j : Nat) : Int)) wt)
        rw [e3, sbt_set h3.1 h3.2.1 (hz i hi s hs e), sbt_set h3.1 h3.2.1 (fun j hj => by rw [e, dgs_ky h3.2.1 (fun x hx => by have := h3.2.2 x hx; omega) hj])]
      · rw [List.getElem?_eq_none (by simp; omega), List.getElem?_eq_none (by simp; omega)]
    have e2 : (List.range N).map (fun i => O.getD i 0) = (O.map fun s => kyP (plN s)).map fun a => sbt (fun j => ((dgs 64 wt a j : Nat) : Int)) wt := by
      rw [← hN, getD_range, List.map_map]
      refine (List.map_id' O).symm.trans (List.map_congr_left fun s hs => ?_)
      have h3 := hO s hs
      exact (sbt_set h3.1 h3.2.1 (fun j hj => by rw [dgs_ky h3.2.1 (fun x hx => by have := h3.2.2 x hx; omega) hj])).symm
    rw [e1, e2]
    exact h2.map _
  have hL : dsr (fun s => lic (bkf (fun _ => wt) Z) s N) (sls n t 0 0) (-1) = some ((lam : Nat) : Int) := by
    refine dsr_all _ _ (fun y hy => by show lic (bkf (fun _ => wt) Z) y N = lam; rw [lic_perm hmap]; exact hd y hy) (Or.inl (fun e => ?_)) (Or.inl (by omega))
    rw [e] at hne; cases hne
  rcases hD with ⟨k, e, hx⟩ | ⟨e, _⟩
  · rw [hL] at e
    cases e
    exact hx
  · rw [hL] at e; cases e
end Go.Proofs.YtpgaakjldlcejaaDoor

/- TopDesigns: its walk. -/
namespace Go.Proofs.YtpgaakjldlcejaaDoor
open Go.RowKit Go.Sort

/-- The blocks of a code whose sets are known. -/
theorem blocks_of {D : FD} (hD : D ∈ fieldsL) {n K wt : Nat} {R0 : Nat → Nat → Nat} {O : List Nat} {p : Nat → Nat} (hr : RRE D n K R0 p) (hK : D.q ^ K ≤ 4096) (hO : (gsl D R0 n K wt (D.q ^ K)).Perm O) (hn : n ≤ 64) (hw1 : 1 ≤ wt) (hwn : wt ≤ n) {ao : Option Addr} (ca : Nat) {w : World} (h : Cod D n ao K R0 w) (hT : TzOk w) :
    Calls Tryd.prog 5 #[.agg #[.int .i64 D.q, .int .i64 (n : Nat), .slice ao K ca], .int .i64 (wt : Nat)] w fun e w' => ∃ v, e = .returned (.tuple #[v, .int .i64 0]) ∧ BkO v wt O w' ∧ Below w.heap.size w w' := by
  have F := fld hD
  have hred : Red D n K R0 K R0 := ⟨p, hr, fun _ => Iff.rfl⟩
  have same : ∀ k R, Red D n K R0 k R → k = K ∧ wdr D R k = wdr D R0 K := fun k R h => by
    obtain ⟨e, e2⟩ := Red.uniq F h hred (fun _ => Iff.rfl)
    subst e
    exact ⟨rfl, funext fun _ => enw_congr e2⟩
  refine (gblocks_ok hD ca h hn hw1 hwn hT (fun k R hr => by rw [(same k R hr).1]; exact hK)).mono ?_
  rintro e w' ⟨k, R, v, A, L, base, hr, rfl, _, h2, h3, _, h4, hb⟩
  obtain ⟨e, e2⟩ := same k R hr
  subst e
  rw [gsl_conD e2] at h3
  exact ⟨v, rfl, ⟨base, A, h4, h2.trans ((h3.trans hO).map _)⟩, hb⟩
theorem oct_smB : ((List.range 6).all fun t => smB 24 t) = true := by decide +kernel
theorem hex_smB : ((List.range 6).all fun t => smB 12 t) = true := by decide +kernel
theorem oct_sls : ((List.range 6).all fun t => !(sls 24 t 0 0).isEmpty) = true := by decide +kernel
theorem hex_sls : ((List.range 6).all fun t => !(sls 12 t 0 0).isEmpty) = true := by decide +kernel

set_option maxHeartbeats 8000000 in
set_option maxRecDepth 100000 in
theorem topDesigns_walk {t0 : Int} {w : World} (ht0 : I64 t0) (hT : TzOk w) :
    Calls Tryd.prog 3 #[.int .i64 t0] w fun e w' => e = .returned (.bool true) ∧ Below w.heap.size w w' := by
  obtain ⟨t, ht6, HPt⟩ : ∃ x : Nat, x < 6 ∧ Hid (∀ wx : World, Calls Tryd.prog 4 #[.int .i64 t0, .int .i64 6] wx fun e w' => e = .returned (.int .i64 (x : Nat)) ∧ w' = wx) := by
    have a1 := pick_lo t0 6 (by omega)
    have a2 := pick_hi t0 6 (by omega)
    refine ⟨(pick t0 6).toNat, by omega, fun wx => ?_⟩
    rw [Int.toNat_of_nonneg a1]
    exact pick_any t0 6 wx ht0.1 ht0.2 (by omega) (by omega)
  have HT : Hid (TzOk w) := hT
  obtain ⟨la, hla⟩ : ∃ la, la = lamO.getD t 0 := ⟨_, rfl⟩
  obtain ⟨lb, hlb⟩ : ∃ lb, lb = lamH.getD t 0 := ⟨_, rfl⟩
  have HL : Hid (la = lamO.getD t 0 ∧ lb = lamH.getD t 0) := ⟨hla, hlb⟩
  clear ht0 hT hla hlb
  go_enter Tryd.func3, Tryd.ntmps3
  go_wp2_with fail
  refine (HPt.out w).mono ?_
  rintro e w0 ⟨rfl, hw⟩
  have hw := hw.symm
  subst hw
  go_wp2_with fail
  refine (bin_cod w).mono ?_
  rintro e w1 ⟨ro, rc, rfl, ⟨hc1, _⟩, hb1⟩
  have HB2 : Hid (Calls Tryd.prog 5 #[.agg #[.int .i64 2, .int .i64 24, .slice ro 12 rc], .int .i64 8] w1 fun e w' => ∃ v, e = .returned (.tuple #[v, .int .i64 0]) ∧ BkO v 8 octL w' ∧ Below w1.heap.size w1 w') := blocks_of (n := 24) (wt := 8) F2_in F2_gol.1 (by decide) oct_perm (by omega) (by omega) (by omega) rc hc1 (fun x wx hb => HT.out x wx (bel_up' hb1 hb))
  have H1 : Hid (Below w.heap.size w w1) := hb1
  clear hc1 hb1
  go_wp2_with fail
  refine HB2.out.mono ?_
  rintro e w2 ⟨va, rfl, hva, hb2⟩
  have hda := design_of (t := t) (lam := la) hva oct_ok oct_len (by omega) (by omega) (by omega) (by omega) (by omega) (List.all_eq_true.1 oct_smB t (List.mem_range.2 ht6)) (by have := List.all_eq_true.1 oct_sls t (List.mem_range.2 ht6); simpa using this) (by rw [HL.out.1]; exact oct_dsg ht6)
  obtain ⟨ao, ca, rfl, hda⟩ := hda
  have H2 : Hid (Below w.heap.size w w2 ∧ ∀ wx, Below w2.heap.size w2 wx → Calls Tryd.prog 8 #[.int .i64 24, .slice ao 759 ca, .int .i64 (t : Nat)] wx fun e w' => e = .returned (.tuple #[.int .i64 (la : Nat), .bool true, .int .i64 0]) ∧ Below wx.heap.size wx w') := ⟨bel_up' H1.out hb2, hda⟩
  clear hda hva hb2 HB2
  go_wp2_with fail
  refine (tern_cod w2).mono ?_
  rintro e w3 ⟨ro3, rc3, rfl, ⟨hc3, _⟩, hb3⟩
  have HB3 : Hid (Calls Tryd.prog 5 #[.agg #[.int .i64 3, .int .i64 12, .slice ro3 6 rc3], .int .i64 6] w3 fun e w' => ∃ v, e = .returned (.tuple #[v, .int .i64 0]) ∧ BkO v 6 hexL w' ∧ Below w3.heap.size w3 w') := blocks_of (n := 12) (wt := 6) F3_in F3_gol.1 (by decide) hex_perm (by omega) (by omega) (by omega) rc3 hc3 (fun x wx hb => HT.out x wx (bel_up' (bel_up' H2.out.1 hb3) hb))
  have H3 : Hid (Below w2.heap.size w2 w3 ∧ Below w.heap.size w w3) := ⟨hb3, bel_up' H2.out.1 hb3⟩
  clear hc3 hb3
  go_wp2_with fail
  refine HB3.out.mono ?_
  rintro e w4 ⟨vb, rfl, hvb, hb4⟩
  have hdb := design_of (t := t) (lam := lb) hvb hex_ok hex_len (by omega) (by omega) (by omega) (by omega) (by omega) (List.all_eq_true.1 hex_smB t (List.mem_range.2 ht6)) (by have := List.all_eq_true.1 hex_sls t (List.mem_range.2 ht6); simpa using this) (by rw [HL.out.2]; exact hex_dsg ht6)
  obtain ⟨bo, cb, rfl, hdb⟩ := hdb
  have H4 : Hid (Below w.heap.size w w4 ∧ Below w2.heap.size w2 w4 ∧ ∀ wx, Below w4.heap.size w4 wx → Calls Tryd.prog 8 #[.int .i64 12, .slice bo 132 cb, .int .i64 (t : Nat)] wx fun e w' => e = .returned (.tuple #[.int .i64 (lb : Nat), .bool true, .int .i64 0]) ∧ Below wx.heap.size wx w') := ⟨bel_up' H3.out.2 hb4, bel_up' H3.out.1 hb4, hdb⟩
  clear hdb hvb hb4 HB3
  go_wp2_with fail
  refine (H2.out.2 w4 H4.out.2.1).mono ?_
  rintro e w5 ⟨rfl, hb5⟩
  have H5 : Hid (Below w.heap.size w w5 ∧ Below w4.heap.size w4 w5) := ⟨bel_up' H4.out.1 hb5, hb5⟩
  clear hb5
  go_wp2_with fail
  refine (H4.out.2.2 w5 H5.out.2).mono ?_
  rintro e w6 ⟨rfl, hb6⟩
  have H6 : Hid (Below w.heap.size w w6) := bel_up' H5.out.1 hb6
  clear hb6 HPt HT
  rcases (show t = 0 ∨ t = 1 ∨ t = 2 ∨ t = 3 ∨ t = 4 ∨ t = 5 by omega) with rfl | rfl | rfl | rfl | rfl | rfl
  · obtain rfl : la = 759 := HL.out.1
    obtain rfl : lb = 132 := HL.out.2
    clear HL H2 H4
    go_wp2
    go_ret
    exact ⟨by first | rfl | decide | simp, (H6.out.alloc H6.out.size _).alloc (by have := H6.out.size; simp; omega) _⟩
  · obtain rfl : la = 253 := HL.out.1
    obtain rfl : lb = 66 := HL.out.2
    clear HL H2 H4
    go_wp2
    go_ret
    exact ⟨by first | rfl | decide | simp, (H6.out.alloc H6.out.size _).alloc (by have := H6.out.size; simp; omega) _⟩
  · obtain rfl : la = 77 := HL.out.1
    obtain rfl : lb = 30 := HL.out.2
    clear HL H2 H4
    go_wp2
    go_ret
    exact ⟨by first | rfl | decide | simp, (H6.out.alloc H6.out.size _).alloc (by have := H6.out.size; simp; omega) _⟩
  · obtain rfl : la = 21 := HL.out.1
    obtain rfl : lb = 12 := HL.out.2
    clear HL H2 H4
    go_wp2
    go_ret
    exact ⟨by first | rfl | decide | simp, (H6.out.alloc H6.out.size _).alloc (by have := H6.out.size; simp; omega) _⟩
  · obtain rfl : la = 5 := HL.out.1
    obtain rfl : lb = 4 := HL.out.2
    clear HL H2 H4
    go_wp2
    go_ret
    exact ⟨by first | rfl | decide | simp, (H6.out.alloc H6.out.size _).alloc (by have := H6.out.size; simp; omega) _⟩
  · obtain rfl : la = 1 := HL.out.1
    obtain rfl : lb = 1 := HL.out.2
    clear HL H2 H4
    go_wp2
    go_ret
    exact ⟨by first | rfl | decide | simp, (H6.out.alloc H6.out.size _).alloc (by have := H6.out.size; simp; omega) _⟩
end Go.Proofs.YtpgaakjldlcejaaDoor
