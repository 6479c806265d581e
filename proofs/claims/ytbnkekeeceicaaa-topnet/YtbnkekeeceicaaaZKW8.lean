/- Texts of ours, one behind the other: KW8 KW9 KW10 KX1. -/
import Derived.Test.YtbnkekeeceicaaaZKW4
import Derived.Test.YtbnkekeeceicaaaZS47
import Derived.Test.YtbnkekeeceicaaaZS92
import Derived.Test.YtbnkekeeceicaaaZS96
/- Nets: how much comes to a node (Flow), and who can be reached then (Cut). -/
namespace Go.Proofs.Ytbnkekeeceicaaa
open Go.RowKit Go.Sort Go.Maps Go.Shelf

theorem EdZ.cg {eo : Option Addr} {m : Nat} {F T F' T' : Nat → Int} {w : World} (h : EdZ eo m F T w) (e : ∀ i, i < m → F i = F' i ∧ T i = T' i) : EdZ eo m F' T' w := fun j hj => by
  obtain ⟨b, off, e1, e2, e3⟩ := h j hj
  exact ⟨b, off, e1, by rw [← (e j hj).1]; exact e2, by rw [← (e j hj).2]; exact e3⟩
/-- What Flow and Cut stand on: where as much flows as there can. -/
theorem flow_end {n m : Nat} {F T : Nat → Nat} {us : Nat → Bool} {t k : Nat} {L : List Nat} {bt : Nat → Nat} (hN : Nt n m F T) (h0 : t ≠ 0) (h : Flw m F T us t k) (hk : k ≤ m) (hR : Rch m F T us L bt) (hno : k < m → ∃ L bt, Rch m F T us L bt ∧ t ∉ L) : t ∉ L := by
  by_cases c : k < m
  · obtain ⟨L', bt', hR', ht'⟩ := hno c
    intro q
    exact ht' (inL_yes.1 (hR.sub (S := inL L') (inL_yes.2 hR'.zero) (fun e he x => inL_yes.2 (hR'.cl e he (inL_yes.1 x))) q))
  · have e : k = m := by omega
    subst e
    exact h.all hN h0 hR

theorem Flw.one {n m : Nat} {F T : Nat → Nat} {us : Nat → Bool} {t : Nat} (hN : Nt n m F T) (h : Flw m F T us t m) (h0 : t ≠ 0) : Rch m F T us [0] (fun _ => 0) := by
  have h1 := h 0
  rw [if_neg (fun q => h0 q.symm), if_pos rfl] at h1
  have h2 : edN m F us 0 ≤ m := nf_top _ m
  have h4 := nf_full m (show edN m F us 0 = m by omega)
  refine ⟨⟨[], rfl⟩, by simp, fun v hv h => absurd (List.mem_singleton.1 hv) h, fun e he q => ?_⟩
  exfalso
  have a := h4 e he
  have b := hN.up e he
  simp only [Bool.and_eq_true, decide_eq_true_eq] at a
  have q := List.mem_singleton.1 q
  unfold frF at q
  rw [if_pos a.1] at q
  omega
set_option maxHeartbeats 4000000 in
set_option maxRecDepth 100000 in
theorem nFlow_ok {n t : Nat} {eo : Option Addr} {m ec : Nat} {F T : Nat → Nat} {w : World} (hE : EdZ eo m (fun i => ((F i : Nat) : Int)) (fun i => ((T i : Nat) : Int)) w) (hN : Nt n m F T) (hn : 0 < n) (hn10 : n ≤ 10) (hm : m ≤ 100) (ht : t < n) (h0 : t ≠ 0)
    (hC : ∀ wx, Below w.heap.size w wx → Calls Try.prog 17 #[.agg #[.int .i64 (n : Nat), .slice eo m ec], .int .i64 (t : Nat)] wx fun e w' => e = .returned (.int .i64 0) ∧ Below wx.heap.size wx w') :
    Calls Try.prog 8 #[.agg #[.int .i64 (n : Nat), .slice eo m ec], .int .i64 (t : Nat)] w fun e w' => e = .returned (.tuple #[.int .i64 ((cuB m F T t (2 ^ (n - 1))).1 : Nat), .int .i64 0]) ∧ Below w.heap.size w w' := by
  obtain ⟨wa, hwa⟩ : ∃ wa, wa = w.alloc (.cells #[.int .i64 (n : Nat), .slice eo m ec] 25) := ⟨_, rfl⟩
  have hba : Below w.heap.size w wa := by rw [hwa]; exact (Below.refl _ _).alloc (Nat.le_refl _) _
  have hc : NB w.heap.size (n : Nat) (.slice eo m ec) wa := by rw [hwa]; exact NB.new _ _ _
  have HNB : Hid (NB w.heap.size (n : Nat) (.slice eo m ec) wa) := hc
  obtain ⟨c0, c1⟩ := hc
  rw [hwa] at c0 c1
  have HC : Hid (Calls Try.prog 17 #[.agg #[.int .i64 (n : Nat), .slice eo m ec], .int .i64 (t : Nat)] wa fun e w' => e = .returned (.int .i64 0) ∧ Below wa.heap.size wa w') := hC wa hba
  rw [hwa] at HC
  have HB : Hid (Below w.heap.size w wa ∧ wa = w.alloc (.cells #[.int .i64 (n : Nat), .slice eo m ec] 25)) := ⟨hba, hwa⟩
  have HF : Hid (∀ wx, Below w.heap.size w wx → Calls Try.prog 18 #[.agg #[.int .i64 (n : Nat), .slice eo m ec], .int .i64 (t : Nat), .int .i64 (m : Nat)] wx (FilP n t m eo m ec F T wx)) := fun wx hb => sfill_any (hE.below hb) hN hn hn10 hm ht hm
  have HR : Hid (∀ {B ub k us} {wx : World}, StB B ub n t k eo m ec us wx → Below w.heap.size w wx → Flw m F T us t k → k ≤ m → (k < m → ∃ L bt, Rch m F T us L bt ∧ t ∉ L) → (cuB m F T t (2 ^ (n - 1))).1 = k) := fun {B ub k us} {wx} hS hb hF hk hno => by
    have hex : ∃ L bt, Rch m F T us L bt := by
      by_cases c : k < m
      · obtain ⟨L, bt, q, _⟩ := hno c
        exact ⟨L, bt, q⟩
      · have e : k = m := by omega
        subst e
        exact ⟨_, _, hF.one hN h0⟩
    obtain ⟨L, bt, hR⟩ := hex
    rw [cuB_flow hN hn hF hR (flow_end hN h0 hF hk hR hno)]
  clear hC hba hwa hE
  go_enter Try.func8, Try.ntmps8
  go_wp2_with fail
  refine HC.out.mono ?_
  rintro e w1 ⟨rfl, hb1⟩
  rw [← HB.out.2] at hb1
  have H1 : Hid (Below w.heap.size w w1 ∧ NB w.heap.size (n : Nat) (.slice eo m ec) w1) := ⟨bel_up' HB.out.1 hb1, HNB.out.keep hb1⟩
  clear hb1 c0 c1
  obtain ⟨c0, c1⟩ := H1.out.2
  go_wp2_with fail
  refine (HF.out w1 H1.out.1).mono ?_
  rintro e w2 ⟨B, ub, us, k, rfl, hS, hFl, hk, hno, _, hb2⟩
  have H2 : Hid (Below w.heap.size w w2 ∧ (cuB m F T t (2 ^ (n - 1))).1 = k) := ⟨bel_up' H1.out.1 hb2, HR.out hS (bel_up' H1.out.1 hb2) hFl hk hno⟩
  have c4 := hS.c4
  clear hS hFl hno hb2 c0 c1
  go_wp2
  go_ret2
  exact ⟨by rw [H2.out.2]; rfl, H2.out.1⟩
end Go.Proofs.Ytbnkekeeceicaaa

/- Nets: a stream's ways (after, ways). -/
namespace Go.Proofs.Ytbnkekeeceicaaa
open Go.RowKit Go.Sort Go.Maps

set_option maxHeartbeats 8000000 in
set_option maxRecDepth 100000 in
theorem safter_any {B ub n t k : Nat} {eo : Option Addr} {m ec : Nat} {us : Nat → Bool} {F T : Nat → Nat} {G : Nat} {A : List Nat} {c : Nat → Int} {x e0 : Nat} {w : World} (hS : StB B ub n t k eo m ec us w) (hE : EdZ eo m (fun i => ((F i : Nat) : Int)) (fun i => ((T i : Nat) : Int)) w) (hM : MapN G A c w) (hm : m ≤ 100) (he0 : e0 < m) (hr0 : rmn us A e0 = true) (hf0 : F e0 = x) :
    Calls Try.prog 34 #[.pointer (some ⟨B, 0, none⟩), .int .i64 (x : Nat), .map (some G)] w fun r w' => ∃ e, r = .returned (.int .i64 (e : Nat)) ∧ e < m ∧ rmn us A e = true ∧ F e = x ∧ Below w.heap.size w w' := by
  have HS : Hid (StB B ub n t k eo m ec us w ∧ EdZ eo m (fun i => ((F i : Nat) : Int)) (fun i => ((T i : Nat) : Int)) w ∧ MapN G A c w ∧ rmn us A e0 = true ∧ F e0 = x) := ⟨hS, hE, hM, hr0, hf0⟩
  have c1 := hS.c1
  clear hS hE hM hr0 hf0
  go_enter Try.func34, Try.ntmps34
  go_wp2
  clear c1
  go_loopw [17] (fun vi wr => ∃ i : Nat, i ≤ e0 ∧ vi = .int .i64 (i : Nat) ∧ Hid (Below w.heap.size w wr)) (fun vi _ => e0 - (RowKit.intOf vi).toNat)
  case atStart => exact ⟨0, by omega, rfl, Below.refl _ _⟩
  case round =>
    obtain ⟨i, hi, rfl, HI⟩ := hrel
    rename World => wr
    have him : i < m := by omega
    have hib : (i : Int) < (m : Int) := by omega
    have hib0 : (0 : Int) ≤ (i : Int) := by omega
    obtain ⟨b, off, e1, q1, q2⟩ := (HS.out.2.1.below HI.out) i him
    subst e1
    obtain ⟨f, hf⟩ : ∃ f, f = F i := ⟨_, rfl⟩
    obtain ⟨u, hu⟩ : ∃ u, u = T i := ⟨_, rfl⟩
    replace q1 : wr.cell? ⟨b, off + i * 2, none⟩ = some (.int .i64 (f : Nat)) := by rw [hf]; exact q1
    replace q2 : wr.cell? ⟨b, off + i * 2 + 1, none⟩ = some (.int .i64 (u : Nat)) := by rw [hu]; exact q2
    obtain ⟨wz, hwz⟩ : ∃ wz, wz = wr.alloc (.cells #[.int .i64 (f : Nat), .int .i64 (u : Nat)] 45) := ⟨_, rfl⟩
    have hbz : Below w.heap.size w wz := by rw [hwz]; exact HI.out.alloc HI.out.size _
    have HZ : Hid (StB B ub n t k (some ⟨b, off, none⟩) m ec us wz ∧ MapN G A c wz ∧ Below w.heap.size w wz) := ⟨HS.out.1.below hbz, HS.out.2.2.1.below hbz, hbz⟩
    obtain ⟨D, hown, hD⟩ := HZ.out.2.1
    have HOw : Hid (wz.ownsMap Try.prog 3 (plainElem Try.prog 3) G A.length D ∧ MnD D A c) := ⟨hown, hD⟩
    have c3 := HZ.out.1.c3
    have cu := RowF.cell HZ.out.1.row i him
    obtain ⟨bu, hbu⟩ : ∃ bu, bu = us i := ⟨_, rfl⟩
    replace cu : wz.cell? ⟨ub, i, none⟩ = some (.bool bu) := by rw [hbu]; exact cu
    rw [hwz] at HOw c3 cu
    have hiw : (Lit.int .i64 (i : Nat)).wf = true := ct_wf (by omega)
    obtain ⟨hs, hhs⟩ : ∃ hs, hs = A.contains i := ⟨_, rfl⟩
    have hhas : Maps.has D (.int .i64 ((i : Nat) : Int)) = hs := by
      rw [hhs]
      by_cases q : i ∈ A
      · rw [hD.in' q, List.contains_iff_mem.2 q]
      · rw [hD.out' q]
        cases z : A.contains i with
        | false => rfl
        | true => exact absurd (List.contains_iff_mem.1 z) q
    have HV : Hid (f = F i ∧ bu = us i ∧ hs = A.contains i) := ⟨hf, hbu, hhs⟩
    have HNx : Hid (¬ (f = x ∧ bu = true ∧ hs = false) → i + 1 ≤ e0) := fun q => by
      have : i ≠ e0 := fun z => q (by
        have h1 := HS.out.2.2.2.1
        unfold rmn at h1
        rw [Bool.and_eq_true] at h1
        rw [HV.out.1, HV.out.2.1, HV.out.2.2, z]
        exact ⟨HS.out.2.2.2.2, h1.1, by simpa using h1.2⟩)
      omega
    clear hf hu hbz hown hD hbu hhs
    by_cases kf : f = x
    · have kfb : (((f : Nat) : Int) == ((x : Nat) : Int)) = true := by rw [kf]; simp
      cases bu with
      | true =>
        cases hs with
        | true =>
          have HN : Hid (i + 1 ≤ e0) := HNx.out (fun q => by cases q.2.2)
          clear kf
          go_wp2_with (at_lookup; refine wpList_lookup_own_ok_int _ rfl _ _ 58 rfl 3 3 .i64 ct_law ct_map cty_int (ct_zero _) G A.length _ rfl HOw.out.1 _ _ rfl (ct_key _ hiw) ?_; intro cx hat hwc; clear hat hwc)
          rw [← hwz]
          go_roundw
          case rel => exact ⟨i + 1, HN.out, by go_num, HZ.out.2.2⟩
          case measure => simp [RowKit.intOf]; have := HN.out; omega
        | false =>
          have HR : Hid (rmn us A i = true ∧ F i = x) := by
            unfold rmn
            rw [← HV.out.2.1, ← HV.out.2.2, ← HV.out.1]
            exact ⟨rfl, kf⟩
          clear kf
          go_wp2_with (at_lookup; refine wpList_lookup_own_ok_int _ rfl _ _ 58 rfl 3 3 .i64 ct_law ct_map cty_int (ct_zero _) G A.length _ rfl HOw.out.1 _ _ rfl (ct_key _ hiw) ?_; intro cx hat hwc; clear hat hwc)
          rw [← hwz]
          go_ret
          exact ⟨i, rfl, him, HR.out.1, HR.out.2, HZ.out.2.2⟩
      | false =>
        have HN : Hid (i + 1 ≤ e0) := HNx.out (fun q => by cases q.2.1)
        clear kf
        go_wp2_with (at_lookup; refine wpList_lookup_own_ok_int _ rfl _ _ 58 rfl 3 3 .i64 ct_law ct_map cty_int (ct_zero _) G A.length _ rfl HOw.out.1 _ _ rfl (ct_key _ hiw) ?_; intro cx hat hwc; clear hat hwc)
        rw [← hwz]
        go_roundw
        case rel => exact ⟨i + 1, HN.out, by go_num, HZ.out.2.2⟩
        case measure => simp [RowKit.intOf]; have := HN.out; omega
    · have kfb : (((f : Nat) : Int) == ((x : Nat) : Int)) = false := beq_eq_false_iff_ne.2 (by omega)
      have HN : Hid (i + 1 ≤ e0) := HNx.out (fun q => kf q.1)
      go_wp2_with (at_lookup; refine wpList_lookup_own_ok_int _ rfl _ _ 58 rfl 3 3 .i64 ct_law ct_map cty_int (ct_zero _) G A.length _ rfl HOw.out.1 _ _ rfl (ct_key _ hiw) ?_; intro cx hat hwc; clear hat hwc)
      rw [← hwz]
      go_roundw
      case rel => exact ⟨i + 1, HN.out, by go_num, HZ.out.2.2⟩
      case measure => simp [RowKit.intOf]; have := HN.out; omega
end Go.Proofs.Ytbnkekeeceicaaa

/- Nets: a stream's ways, whole (ways). -/
namespace Go.Proofs.Ytbnkekeeceicaaa
open Go.RowKit Go.Sort Go.Maps

theorem rmn_nil (us : Nat → Bool) : rmn us [] = us := by
  funext i
  unfold rmn
  simp
theorem Wys.few {m : Nat} {F T : Nat → Nat} {us : Nat → Bool} {t k : Nat} {A : List Nat} {wy : Nat → Nat} {P : Nat → List Nat} {j : Nat} (h : Wys m F T us t k A wy P j) : A.length ≤ m := nd_len h.nd (fun e he => (h.in' e he).1)
theorem rmn_less {us : Nat → Bool} {A : List Nat} {e m : Nat} {F T : Nat → Nat} {t k : Nat} {wy : Nat → Nat} {P : Nat → List Nat} {j : Nat} (h : Wys m F T us t k A wy P j) (he : e < m) (hr : rmn us A e = true) : A.length < m := by
  have h1 := (h.add he hr).few
  rw [List.length_append, List.length_singleton] at h1
  omega

/-- What ways tells. -/
def WaysP (m : Nat) (F T : Nat → Nat) (us : Nat → Bool) (t k : Nat) (w : World) (r : Ending) (w' : World) : Prop := ∃ A wy P, r = .returned (.map (some w.heap.size)) ∧ MapN w.heap.size A (fun e => ((wy e : Nat) : Int)) w' ∧ Wys m F T us t k A wy P k ∧ (∀ i, k ≤ i → P i = []) ∧ Below w.heap.size w w'
set_option maxHeartbeats 8000000 in
set_option maxRecDepth 100000 in
theorem sways_any {B ub n t k : Nat} {eo : Option Addr} {m ec : Nat} {us : Nat → Bool} {F T : Nat → Nat} {w : World} (hS : StB B ub n t k eo m ec us w) (hE : EdZ eo m (fun i => ((F i : Nat) : Int)) (fun i => ((T i : Nat) : Int)) w) (hN : Nt n m F T) (hn : 0 < n) (hm : m ≤ 100) (hk : k ≤ 100) (hF : Flw m F T us t k) :
    Calls Try.prog 21 #[.pointer (some ⟨B, 0, none⟩)] w (WaysP m F T us t k w) := by
  obtain ⟨G, hG⟩ : ∃ G, G = w.heap.size := ⟨_, rfl⟩
  obtain ⟨w1, hw1⟩ : ∃ w1, w1 = w.alloc (.map #[] 0) := ⟨_, rfl⟩
  have hb1 : Below w.heap.size w w1 := by rw [hw1]; exact (Below.refl _ _).alloc (Nat.le_refl _) _
  have H1 : Hid (MapN G [] (fun _ => 0) w1 ∧ Below w.heap.size w w1 ∧ G = w.heap.size) := ⟨⟨.map [], by rw [hw1, hG]; exact World.ownsMap_made _ _ _ _, MnD.nil _⟩, hb1, hG⟩
  have HS : Hid (StB B ub n t k eo m ec us w ∧ EdZ eo m (fun i => ((F i : Nat) : Int)) (fun i => ((T i : Nat) : Int)) w ∧ Nt n m F T ∧ Flw m F T us t k) := ⟨hS, hE, hN, hF⟩
  have hmm := @run_makeMap Try.prog
  have c4 := (hS.below hb1).c4
  rw [hw1] at c4
  clear hS hE hN hF hb1
  go_enter Try.func21, Try.ntmps21
  go_wp2
  rw [← hw1, ← hG]
  clear hG hmm c4 hw1
  go_loopw [12] (fun vi wr => ∃ (j : Nat) (A : List Nat) (wy : Nat → Nat) (P : Nat → List Nat), j ≤ k ∧ vi = .int .i64 (j : Nat) ∧ Hid (MapN G A (fun e => ((wy e : Nat) : Int)) wr ∧ Wys m F T us t k A wy P j ∧ Flw m F T (rmn us A) t (k - j) ∧ (∀ i, j ≤ i → P i = []) ∧ Below w.heap.size w wr)) (fun vi _ => k - (RowKit.intOf vi).toNat)
  case atStart => exact ⟨0, [], fun _ => 0, fun _ => [], by omega, rfl, H1.out.1, Wys.none _ _ _ _ _ _, by rw [rmn_nil]; exact HS.out.2.2.2, fun _ _ => rfl, H1.out.2.1⟩
  case round =>
    obtain ⟨j, A, wy, P, hj, rfl, HG⟩ := hrel
    rename World => wr
    by_cases hlt : j < k
    · have hjb : (j : Int) < (k : Int) := by omega
      have HB0 : Hid (Bal m F T (rmn us A) 0 t (k - j - 1) ∧ Chn F T 0 (P j) 0) := ⟨by have h := HG.out.2.2.1; rw [show k - j = k - j - 1 + 1 by omega] at h; exact h.first, by rw [HG.out.2.2.2.1 j (Nat.le_refl _)]; exact rfl⟩
      go_wp2
      go_loopw [5] (fun vx wx => ∃ (x : Nat) (A1 : List Nat) (wy1 : Nat → Nat) (P1 : Nat → List Nat), x < n ∧ vx = .int .i64 (x : Nat) ∧ Hid (MapN G A1 (fun e => ((wy1 e : Nat) : Int)) wx ∧ Wys m F T us t k A1 wy1 P1 j ∧ Bal m F T (rmn us A1) x t (k - j - 1) ∧ Chn F T 0 (P1 j) x ∧ (∀ i, j < i → P1 i = []) ∧ Below w.heap.size w wx)) (fun vx _ => n - (RowKit.intOf vx).toNat)
      case atStart => exact ⟨0, A, wy, P, hn, rfl, HG.out.1, HG.out.2.1, HB0.out.1, HB0.out.2, fun i hi => HG.out.2.2.2.1 i (by omega), HG.out.2.2.2.2⟩
      case round =>
        obtain ⟨x, A1, wy1, P1, hxn, rfl, HI⟩ := hrel
        rename World => wx
        have c2 := (HS.out.1.below HI.out.2.2.2.2.2).c2
        by_cases hxt : x = t
        · have hxb : (((x : Nat) : Int) != ((t : Nat) : Int)) = false := by rw [hxt]; simp
          have HN : Hid (Wys m F T us t k A1 wy1 P1 (j + 1) ∧ Flw m F T (rmn us A1) t (k - (j + 1))) := by
            have h1 := HI.out.2.2.1
            have h2 := HI.out.2.2.2.1
            rw [hxt] at h1 h2
            exact ⟨HI.out.2.1.next h2, by have := h1.last; rw [show k - j - 1 = k - (j + 1) by omega] at this; exact this⟩
          clear hxt
          go_wp2
          go_roundw
          case rel => exact ⟨j + 1, A1, wy1, P1, by omega, by go_num, HI.out.1, HN.out.1, HN.out.2, fun i hi => HI.out.2.2.2.2.1 i (by omega), HI.out.2.2.2.2.2⟩
          case measure => simp [RowKit.intOf]; omega
        · have hxb : (((x : Nat) : Int) != ((t : Nat) : Int)) = true := bne_iff_ne.2 (by omega)
          obtain ⟨e0, he0, hr0, hf0⟩ := way_on HI.out.2.2.1 hxt
          have HAf : Hid (Calls Try.prog 34 #[.pointer (some ⟨B, 0, none⟩), .int .i64 (x : Nat), .map (some G)] wx fun r w' => ∃ e, r = .returned (.int .i64 (e : Nat)) ∧ e < m ∧ rmn us A1 e = true ∧ F e = x ∧ Below wx.heap.size wx w') := safter_any (HS.out.1.below HI.out.2.2.2.2.2) (HS.out.2.1.below HI.out.2.2.2.2.2) HI.out.1 hm he0 hr0 hf0
          clear he0 hr0 hf0
          go_wp2_with fail
          refine HAf.out.mono ?_
          rintro r wy2 ⟨e, rfl, hem, her, hef, hby⟩
          have HY : Hid (MapN G A1 (fun e => ((wy1 e : Nat) : Int)) wy2 ∧ StB B ub n t k eo m ec us wy2 ∧ Below w.heap.size w wy2 ∧ rmn us A1 e = true ∧ F e = x) := ⟨HI.out.1.below hby, (HS.out.1.below HI.out.2.2.2.2.2).below hby, bel_up' HI.out.2.2.2.2.2 hby, her, hef⟩
          obtain ⟨D, hown, hD⟩ := HY.out.1
          have hAm := rmn_less HI.out.2.1 hem her
          have HOw : Hid (wy2.ownsMap Try.prog 3 (plainElem Try.prog 3) G A1.length D ∧ MnD D A1 (fun e => ((wy1 e : Nat) : Int))) := ⟨hown, hD⟩
          have hew : (Lit.int .i64 (e : Nat)).wf = true := ct_wf (by omega)
          have hjw : (Lit.int .i64 (j : Nat)).wf = true := ct_wf (by omega)
          have heb : (e : Int) < (m : Int) := by omega
          have heb0 : (0 : Int) ≤ (e : Int) := by omega
          have HCe : Hid (∀ wm, wy2.grownBy wm (some G) → StB B ub n t k eo m ec us wm ∧ EdZ eo m (fun i => ((F i : Nat) : Int)) (fun i => ((T i : Nat) : Int)) wm ∧ Below w.heap.size w wm) := fun wm hg => by
            have hb : Below w.heap.size w wm := HY.out.2.2.1.grown hg HY.out.2.2.1.size (fun q hq => by cases hq; rw [H1.out.2.2]; exact Nat.le_refl _)
            exact ⟨HS.out.1.below hb, HS.out.2.1.below hb, hb⟩
          obtain ⟨u, hu⟩ : ∃ u, u = T e := ⟨_, rfl⟩
          have hun : u < n := by rw [hu]; exact HS.out.2.2.1.lt e hem
          have hxu : x < u := by rw [hu, ← hef]; exact HS.out.2.2.1.up e hem
          have HU : Hid (u = T e) := hu
          clear hby her hef hown hD c2 hu HAf
          go_wp2_with (at_mapUpdate; refine wpList_mapUpdate_own _ rfl _ _ _ 58 rfl 3 3 ct_law ct_map _ G A1.length _ rfl HOw.out.1 (by unfold maxLen; omega) _ _ _ rfl rfl (ct_key _ hew) _ [] (plainElem_int cty_int hjw) ?_; intro wm hown1 hgrow1; have HM : Hid (wm.ownsMap Try.prog 3 (plainElem Try.prog 3) G (A1.length + 1) (D.put (.int .i64 (e : Nat)) (.lit (.int .i64 (j : Nat)))) ∧ wy2.grownBy wm (some G)) := ⟨hown1, hgrow1⟩; clear hown1 hgrow1; have d1 := (HCe.out wm HM.out.2).1.c1; obtain ⟨b9, off9, e9, q8, q9⟩ := (HCe.out wm HM.out.2).2.1 e hem; subst e9; replace q9 : wm.cell? ⟨b9, off9 + e * 2 + 1, none⟩ = some (.int .i64 (u : Nat)) := by rw [HU.out]; exact q9)
          have HN : Hid (MapN G (A1 ++ [e]) (fun i => (((if i = e then j else wy1 i) : Nat) : Int)) wm ∧ Wys m F T us t k (A1 ++ [e]) (fun i => if i = e then j else wy1 i) (fun i => if i = j then P1 j ++ [e] else P1 i) j ∧ Bal m F T (rmn us (A1 ++ [e])) u t (k - j - 1) ∧ Chn F T 0 (P1 j ++ [e]) u ∧ Below w.heap.size w wm) := by
            refine ⟨⟨_, by rw [List.length_append, List.length_singleton]; exact HM.out.1, ?_⟩, HI.out.2.1.add hem HY.out.2.2.2.1, ?_, ?_, (HCe.out wm HM.out.2).2.2⟩
            · have h := HOw.out.2.put e (j : Int)
              refine ⟨h.im, fun i hi => ?_, h.has⟩
              rw [h.yes i hi]
              by_cases c : i = e
              · rw [if_pos c, if_pos c]
              · rw [if_neg c, if_neg c]
            · rw [HU.out]; exact way_next HI.out.2.2.1 hem HY.out.2.2.2.1 HY.out.2.2.2.2
            · rw [HU.out]; exact HI.out.2.2.2.1.add HY.out.2.2.2.2
          go_roundw
          case rel => exact ⟨u, A1 ++ [e], fun i => if i = e then j else wy1 i, fun i => if i = j then P1 j ++ [e] else P1 i, hun, rfl, HN.out.1, HN.out.2.1, HN.out.2.2.1, by dsimp only; rw [if_pos rfl]; exact HN.out.2.2.2.1, fun i hi => by dsimp only; rw [if_neg (by omega)]; exact HI.out.2.2.2.2.1 i hi, HN.out.2.2.2.2⟩
          case measure => simp [RowKit.intOf]; omega
    · have hjb : ¬ (j : Int) < (k : Int) := by omega
      have hje : k = j := by omega
      have HW : Hid (Wys m F T us t k A wy P k) := by
        have h := HG.out.2.1
        rw [← hje] at h
        exact h
      clear hje
      go_wp2
      go_ret
      exact ⟨A, wy, P, by rw [← H1.out.2.2]; rfl, by rw [← H1.out.2.2]; exact HG.out.1, HW.out, fun i hi => HG.out.2.2.2.1 i (by omega), HG.out.2.2.2.2⟩
end Go.Proofs.Ytbnkekeeceicaaa

/- Nets: edges by where they begin: the comparator; sorting by inserting. -/
namespace Go.Proofs.Ytbnkekeeceicaaa
open Go.RowKit Go.Sort

set_option maxHeartbeats 4000000 in
set_option maxRecDepth 100000 in
theorem bysrc1_any {bE : Nat} {eo : Option Addr} {m ec : Nat} {F T : Nat → Nat} {x y : Nat} {w : World} (hc : w.cell? ⟨bE, 0, none⟩ = some (.slice eo m ec)) (hE : EdZ eo m (fun i => ((F i : Nat) : Int)) (fun i => ((T i : Nat) : Int)) w) (hx : x < m) (hy : y < m) (hF : ∀ i, i < m → F i ≤ 1000) :
    Calls Try.prog 36 #[.int .i64 (x : Nat), .int .i64 (y : Nat), .pointer (some ⟨bE, 0, none⟩)] w fun e w' => e = .returned (.int .i64 (((F x : Nat) : Int) - ((F y : Nat) : Int))) ∧ ∃ d, w' = w.drewN d := by
  obtain ⟨b, off, e1, q1, _⟩ := hE x hx
  obtain ⟨b', off', e2, q2, _⟩ := hE y hy
  rw [e1] at e2
  cases e2
  subst e1
  have hfx := hF x hx
  have hfy := hF y hy
  obtain ⟨f, hf⟩ : ∃ f, f = F x := ⟨_, rfl⟩
  obtain ⟨g, hg⟩ : ∃ g, g = F y := ⟨_, rfl⟩
  replace q1 : w.cell? ⟨b, off + x * 2, none⟩ = some (.int .i64 (f : Nat)) := by rw [hf]; exact q1
  replace q2 : w.cell? ⟨b, off + y * 2, none⟩ = some (.int .i64 (g : Nat)) := by rw [hg]; exact q2
  rw [← hf] at hfx ⊢
  rw [← hg] at hfy ⊢
  have hxb : (x : Int) < (m : Int) := by omega
  have hxb0 : (0 : Int) ≤ (x : Int) := by omega
  have hyb : (y : Int) < (m : Int) := by omega
  have hyb0 : (0 : Int) ≤ (y : Int) := by omega
  have hw : IntKind.i64.wrap ((f : Int) - (g : Int)) = (f : Int) - (g : Int) := by rw [IntWalk.i64_left]; exact IntWalk.wrap64_in _ ⟨by omega, by omega⟩
  clear hf hg hE hF
  go_enter Try.func36, Try.ntmps36
  go_wp2
  go_quiet (fail)
  go_wp2
  go_ret
  exact ⟨rfl, _, rfl⟩
/-- What the comparator tells, wherever it is asked. -/
def Cmp (bE m base : Nat) (F : Nat → Nat) (W : World) : Prop := ∀ wx, Below base W wx → ∀ x y, x < m → y < m → Calls Try.prog 36 #[.int .i64 (x : Nat), .int .i64 (y : Nat), .pointer (some ⟨bE, 0, none⟩)] wx fun e w' => e = .returned (.int .i64 (((F x : Nat) : Int) - ((F y : Nat) : Int))) ∧ ∃ d, w' = wx.drewN d
theorem Row.swq {g m : Nat} {p : Nat → Nat} {w : World} (h : Row g m p w) (i j d : Nat) : Row g m (swq p i j) (((w.drewN d).setCell ⟨g, i, none⟩ (.int .i64 ((p j : Nat) : Int))).setCell ⟨g, j, none⟩ (.int .i64 ((p i : Nat) : Int))) := by
  have h1 := (h.drewN d).store (d := fun x => if x = i then p j else p x) i (p j) (fun _ _ => rfl)
  refine h1.store j (p i) (fun x _ => ?_)
  unfold Go.Proofs.Ytbnkekeeceicaaa.swq
  by_cases c : x = j
  · rw [if_pos c]
    by_cases e : x = i
    · subst e; subst c; rw [if_pos rfl, if_pos rfl]
    · rw [if_neg e, if_pos c]
  · rw [if_neg c, if_neg c]

/-- What a sort of a to b leaves. -/
def SrtP (g m base a b : Nat) (F p : Nat → Nat) (W : World) (e : Ending) (w' : World) : Prop := ∃ p', e = .returned (.tuple #[]) ∧ Row g m p' w' ∧ Rng m a b p p' ∧ Sdd F p' a b ∧ Below base W w'
set_option maxHeartbeats 8000000 in
set_option maxRecDepth 100000 in
theorem isrtF_any {g m c base bE a b : Nat} {F p : Nat → Nat} {W w : World} (hC : Cmp bE m base F W) (hR : Row g m p w) (hg : base ≤ g) (hB : Below base W w) (hp : ∀ x, x < m → p x < m) (hab : a ≤ b) (hbm : b ≤ m) (hm : m ≤ 100) (hF : ∀ i, i < m → F i ≤ 1000) :
    Calls Try.prog 69 #[.slice (some ⟨g, 0, none⟩) m c, .int .i64 (a : Nat), .int .i64 (b : Nat), .func (.func 36) #[] #[.pointer (some ⟨bE, 0, none⟩)]] w (SrtP g m base a b F p W) := by
  have HS : Hid (Cmp bE m base F W ∧ Row g m p w ∧ Below base W w ∧ ∀ x, x < m → p x < m) := ⟨hC, hR, hB, hp⟩
  obtain ⟨a1, ha1⟩ : ∃ a1, a1 = a + 1 := ⟨_, rfl⟩
  have ha1w : IntKind.i64.wrap ((a : Int) + 1) = (a1 : Int) := wrap_to (by omega) (by omega)
  have HA1 : Hid (a1 = a + 1) := ha1
  have HF : Hid (∀ i, i < m → F i ≤ 1000) := hF
  clear hC hR hB hp hF ha1
  go_enter Try.func69, Try.ntmps69
  go_wp2
  go_loopw [8] (fun vi wr => ∃ (i : Nat) (p1 : Nat → Nat), a + 1 ≤ i ∧ i ≤ max b (a + 1) ∧ vi = .int .i64 (i : Nat) ∧ Hid (Row g m p1 wr ∧ Rng m a b p p1 ∧ Sdd F p1 a (min i b) ∧ Below base W wr)) (fun vi _ => b + 1 - (RowKit.intOf vi).toNat)
  case atStart => exact ⟨a1, p, by have := HA1.out; omega, by have := HA1.out; omega, rfl, HS.out.2.1, Rng.refl _ _ _ _, fun i j h1 h2 h3 => by rw [show i = j by have := HA1.out; omega]; exact Nat.le_refl _, HS.out.2.2.1⟩
  case round =>
    obtain ⟨i, p1, hi1, hi2, rfl, HI⟩ := hrel
    rename World => wr
    by_cases hlt : i < b
    · have hib : (i : Int) < (b : Int) := by omega
      go_wp2
      go_loopw [9] (fun vj wx => ∃ (j : Nat) (p2 : Nat → Nat), a ≤ j ∧ j ≤ i ∧ vj = .int .i64 (j : Nat) ∧ Hid (Row g m p2 wx ∧ Rng m a b p p2 ∧ (∀ x y, a ≤ x → x ≤ y → y ≤ i → x ≠ j → y ≠ j → F (p2 x) ≤ F (p2 y)) ∧ (∀ y, j < y → y ≤ i → F (p2 j) ≤ F (p2 y)) ∧ Below base W wx)) (fun vj _ => (RowKit.intOf vj).toNat)
      case atStart => exact ⟨i, p1, by omega, by omega, rfl, HI.out.1, HI.out.2.1, fun x y h1 h2 h3 h4 h5 => HI.out.2.2.1 x y h1 h2 (by omega), fun y h1 h2 => absurd h1 (by omega), HI.out.2.2.2⟩
      case round =>
        obtain ⟨j, p2, hj1, hj2, rfl, HJ⟩ := hrel
        rename World => wx
        by_cases hja : a < j
        · have hjb : (a : Int) < (j : Int) := by omega
          obtain ⟨j1, hj1e⟩ : ∃ j1, j1 = j - 1 := ⟨_, rfl⟩
          have hj1w : IntKind.i64.wrap ((j : Int) - 1) = (j1 : Int) := wrap_to (by omega) (by omega)
          have hj1i : (j : Int) - 1 = (j1 : Int) := by omega
          have hp2 : ∀ x, x < m → p2 x < m := fun x hx => by
            have h := (HJ.out.2.1.wide (Nat.zero_le a) hbm).all (Nat.le_refl m) (fun v => decide (v < m)) (fun z _ hz => decide_eq_true (HS.out.2.2.2 z hz)) x (Nat.zero_le _) hx
            exact of_decide_eq_true h
          obtain ⟨x, hx⟩ : ∃ x, x = p2 j := ⟨_, rfl⟩
          obtain ⟨y, hy⟩ : ∃ y, y = p2 j1 := ⟨_, rfl⟩
          have hxm : x < m := by rw [hx]; exact hp2 j (by omega)
          have hym : y < m := by rw [hy]; exact hp2 j1 (by omega)
          have k1 := HJ.out.1.cell j (by omega)
          have k2 := HJ.out.1.cell j1 (by omega)
          have f1 := HJ.out.1.free j
          have f2 := HJ.out.1.free j1
          rw [← hx] at k1
          rw [← hy] at k2
          have hjm : (j : Int) < (m : Int) := by omega
          have hjm0 : (0 : Int) ≤ (j : Int) := by omega
          have hj1m : (j1 : Int) < (m : Int) := by omega
          have hj1m0 : (0 : Int) ≤ (j1 : Int) := by omega
          have HC : Hid (∀ d, Calls Try.prog 36 #[.int .i64 (x : Nat), .int .i64 (y : Nat), .pointer (some ⟨bE, 0, none⟩)] (wx.drewN d) fun e w' => e = .returned (.int .i64 (((F x : Nat) : Int) - ((F y : Nat) : Int))) ∧ ∃ k, w' = (wx.drewN d).drewN k) := fun d => HS.out.1 _ (below_drewN2 HJ.out.2.2.2.2 d) x y hxm hym
          have HXY : Hid (x = p2 j ∧ y = p2 j1 ∧ j1 = j - 1) := ⟨hx, hy, hj1e⟩
          clear hx hy hp2 hj1e
          by_cases hcm : F x < F y
          · have hcb : ((F x : Nat) : Int) - ((F y : Nat) : Int) < 0 := by omega
            have HN : Hid (∀ d, Row g m (swq p2 j j1) (((wx.drewN d).setCell ⟨g, j, none⟩ (.int .i64 (y : Nat))).setCell ⟨g, j1, none⟩ (.int .i64 (x : Nat))) ∧ Below base W (((wx.drewN d).setCell ⟨g, j, none⟩ (.int .i64 (y : Nat))).setCell ⟨g, j1, none⟩ (.int .i64 (x : Nat)))) := fun d => by
              have h := HJ.out.1.swq j j1 d
              rw [← HXY.out.1, ← HXY.out.2.1] at h
              exact ⟨h, ((below_drewN2 HJ.out.2.2.2.2 d).setCell hg _).setCell hg _⟩
            have HD : Hid ((∀ x y, a ≤ x → x ≤ y → y ≤ i → x ≠ j1 → y ≠ j1 → F (swq p2 j j1 x) ≤ F (swq p2 j j1 y)) ∧ (∀ y, j1 < y → y ≤ i → F (swq p2 j j1 j1) ≤ F (swq p2 j j1 y)) ∧ Rng m a b p (swq p2 j j1)) := by
              have h := Sdd.down HJ.out.2.2.1 hja HJ.out.2.2.2.1 (by rw [← HXY.out.2.2, ← HXY.out.1, ← HXY.out.2.1]; exact hcm)
              rw [← HXY.out.2.2] at h
              exact ⟨h.1, h.2, HJ.out.2.1.trans (Rng.swq p2 ⟨by omega, by omega⟩ ⟨by have := HXY.out.2.2; omega, by have := HXY.out.2.2; omega⟩ hbm)⟩
            have HJ1 : Hid (a ≤ j1 ∧ j1 ≤ i ∧ j1 < j) := by have := HXY.out.2.2; exact ⟨by omega, by omega, by omega⟩
            clear hcm
            go_wp2
            go_quiet ((go_at_call 36; exact Calls.quiet_of (HC.out _)))
            go_wp2
            have hjne : j ≠ j1 := by have := HJ1.out; omega
            have hjne2 : j1 ≠ j := by have := HJ1.out; omega
            go_region
            go_wp2
            go_roundw
            case rel => exact ⟨j1, swq p2 j j1, HJ1.out.1, HJ1.out.2.1, by go_num, (HN.out _).1, HD.out.2.2, HD.out.1, HD.out.2.1, (HN.out _).2⟩
            case measure => simp [RowKit.intOf]; have := HJ1.out; omega
          · have hcb : ¬ ((F x : Nat) : Int) - ((F y : Nat) : Int) < 0 := by omega
            have HE : Hid (Sdd F p2 a (min (i + 1) b)) := (Sdd.stop HJ.out.2.2.1 HJ.out.2.2.2.1 (Or.inr (by rw [← HXY.out.2.2, ← HXY.out.1, ← HXY.out.2.1]; omega))).sub (Nat.le_refl _) (by omega)
            have HD : Hid (∀ d, Row g m p2 (wx.drewN d) ∧ Below base W (wx.drewN d)) := fun d => ⟨HJ.out.1.drewN d, below_drewN2 HJ.out.2.2.2.2 d⟩
            clear hcm
            go_wp2
            go_quiet ((go_at_call 36; exact Calls.quiet_of (HC.out _)))
            go_wp2
            go_roundw
            case rel => exact ⟨i + 1, p2, by omega, by omega, by go_num, (HD.out _).1, HJ.out.2.1, HE.out, (HD.out _).2⟩
            case measure => simp [RowKit.intOf]; omega
        · have hjb : ¬ (a : Int) < (j : Int) := by omega
          have HE : Hid (Sdd F p2 a (min (i + 1) b)) := (Sdd.stop HJ.out.2.2.1 HJ.out.2.2.2.1 (Or.inl (by omega))).sub (Nat.le_refl _) (by omega)
          have HD : Hid (∀ d, Row g m p2 (wx.drewN d) ∧ Below base W (wx.drewN d)) := fun d => ⟨HJ.out.1.drewN d, below_drewN2 HJ.out.2.2.2.2 d⟩
          go_wp2
          go_quiet (fail)
          go_wp2
          go_roundw
          case rel => exact ⟨i + 1, p2, by omega, by omega, by go_num, (HD.out _).1, HJ.out.2.1, HE.out, (HD.out _).2⟩
          case measure => simp [RowKit.intOf]; omega
    · have hib : ¬ (i : Int) < (b : Int) := by omega
      have HE : Hid (Sdd F p1 a b) := HI.out.2.2.1.sub (Nat.le_refl _) (by omega)
      go_wp2
      exact bodyPost_end (results_none rfl _ _ _) rfl ⟨p1, rfl, HI.out.1, HI.out.2.1, HE.out, HI.out.2.2.2⟩
end Go.Proofs.Ytbnkekeeceicaaa
