/- Texts of ours, one behind the other: R12 R13 R18. -/
import Derived.Test.YtaihjfpenbjdiaaZR10
/- The reference: traces and norms. -/
namespace Go.Proofs.Ytaihjfpenbjdiaa
open Go.RowKit

theorem frobZ_nat {D : FD} {x j : Nat} (ha : D.has (x : Int) = true) (hj : j < D.m) : D.frobZ x j = (again D.frob1 j x : Nat) := by
  rw [FD.frobZ, if_pos ha, ← Int.natCast_emod, Int.toNat_natCast, Int.toNat_natCast, Nat.mod_eq_of_lt hj]

set_option maxHeartbeats 4000000 in
theorem rtrace_any {D : FD} (hD : D ∈ fieldsL) (gen : Nat) {v : Value} (a : Int) {w : World} (hM : ModAt D v D.md w) :
    Calls Try.prog 36 #[rf D.q D.p D.m gen v, .int .i64 a] w fun e w' => e = .returned (.int .i64 (D.traceZ a)) ∧ Below w.heap.size w w' := by
  have F := fld hD
  have h2 := F.q2
  have hm6 := F.m6
  have HM : Hid (ModAt D v D.md w ∧ D ∈ fieldsL ∧ Fld D) := ⟨hM, hD, F⟩
  clear hM hD F
  by_cases ha : D.has a = true
  · obtain ⟨x, rfl, hx⟩ := has_nat ha
    have HV : Hid (D.traceZ x = (D.traceTo x D.m : Nat)) := by show _ = _; rw [FD.traceZ, if_pos ha]; rfl
    unfold rf
    go_enter Try.func36, Try.ntmps36
    go_wp2_with fail
    refine (rhas_any D gen v x _).mono ?_
    rintro e w1 ⟨rfl, hb1⟩
    have HX1 : Hid (Box w.heap.size D gen v w1 ∧ Below w.heap.size w w1) := ⟨(box_new D gen v w).below hb1 (by simp), ((Below.refl _ _).alloc (Nat.le_refl _) _).trans (hb1.mono (by simp))⟩
    have hs1 : w.heap.size < w1.heap.size := by have := hb1.size; simp at this; omega
    clear hb1
    go_wp2
    go_loopw [5, 6] (fun s i wr => ∃ j : Nat, j ≤ D.m ∧ i = .int .i64 j ∧ s = .int .i64 (D.traceTo x j : Nat) ∧ Box w.heap.size D gen v wr ∧ Below w.heap.size w wr ∧ w.heap.size < wr.heap.size) (fun _ i _ => D.m - (intOf i).toNat)
    case atStart => exact ⟨0, by omega, rfl, rfl, HX1.out.1, HX1.out.2, hs1⟩
    case round =>
      obtain ⟨j, hj, rfl, rfl, hbox, hbel, hlt⟩ := hrel
      obtain ⟨c0, c1, c2, c3, c4⟩ := hbox
      have HG : Hid (Box w.heap.size D gen v wr ∧ Below w.heap.size w wr) := ⟨⟨c0, c1, c2, c3, c4⟩, hbel⟩
      clear hbel
      by_cases hjm : j < D.m
      · have HC : Hid (Calls Try.prog 34 #[.agg #[.int .i64 D.q, .int .i64 D.p, .int .i64 D.m, .int .i64 gen, v], .int .i64 x, .int .i64 j] wr fun e w' => e = .returned (.int .i64 (again D.frob1 j x : Nat)) ∧ Below wr.heap.size wr w') := by
          have h := rfrob_any HM.out.2.1 gen x j (HM.out.1.below HG.out.2)
          rw [frobZ_nat ha hjm] at h; exact h
        go_wp2_with fail
        refine HC.out.mono ?_
        rintro e w2 ⟨rfl, hb2⟩
        have HR2 : Hid (Box w.heap.size D gen v w2 ∧ Below w.heap.size w w2) := ⟨HG.out.1.below hb2 hlt, HG.out.2.trans (hb2.mono (by omega))⟩
        have hlt2 : w.heap.size < w2.heap.size := by have := hb2.size; omega
        clear hb2 c0 c1 c2 c3 c4 HC
        obtain ⟨c0, c1, c2, c3, c4⟩ := HR2.out.1
        have HC2 : Hid (Calls Try.prog 20 #[.agg #[.int .i64 D.q, .int .i64 D.p, .int .i64 D.m, .int .i64 gen, v], .int .i64 (D.traceTo x j : Nat), .int .i64 (again D.frob1 j x : Nat)] w2 fun e w' => e = .returned (.int .i64 (D.traceTo x (j + 1) : Nat)) ∧ Below w2.heap.size w2 w') := by
          have h := radd_any HM.out.2.1 gen v (D.traceTo x j : Nat) (again D.frob1 j x : Nat) w2
          rw [addZ_nat HM.out.2.2 (traceTo_lt HM.out.2.1 x hx j) (frob_lt HM.out.2.1 x hx j)] at h; exact h
        go_wp2_with fail
        refine HC2.out.mono ?_
        rintro e w3 ⟨rfl, hb3⟩
        have HR3 : Hid (Box w.heap.size D gen v w3 ∧ Below w.heap.size w w3 ∧ w.heap.size < w3.heap.size) := ⟨HR2.out.1.below hb3 hlt2, HR2.out.2.trans (hb3.mono (by omega)), by have := hb3.size; omega⟩
        clear hb3 c0 c1 c2 c3 c4 HC2
        go_wp2
        go_roundw
        case rel => exact ⟨j + 1, by omega, by go_num, rfl, HR3.out⟩
        case measure => simp [intOf]; omega
      · have HE : Hid (j = D.m) := by show j = D.m; omega
        go_wp2
        go_ret
        exact ⟨ret_int (by rw [HV.out, HE.out]), HG.out.2⟩
  · have ha' : D.has a = false := by simpa using ha
    have HV : Hid (D.traceZ a = -1) := by show _ = _; rw [FD.traceZ, if_neg (by simp [ha'])]
    clear ha
    unfold rf
    go_enter Try.func36, Try.ntmps36
    go_wp2_with fail
    refine (rhas_any D gen v a _).mono ?_
    rintro e w1 ⟨rfl, hb1⟩
    have HB1 : Hid (Below w.heap.size w w1) := ((Below.refl _ _).alloc (Nat.le_refl _) _).trans (hb1.mono (by simp))
    clear hb1
    go_wp2
    go_ret
    exact ⟨ret_int (by rw [HV.out]), HB1.out⟩

set_option maxHeartbeats 4000000 in
theorem rnorm_any {D : FD} (hD : D ∈ fieldsL) (gen : Nat) {v : Value} (a : Int) {w : World} (hM : ModAt D v D.md w) :
    Calls Try.prog 38 #[rf D.q D.p D.m gen v, .int .i64 a] w fun e w' => e = .returned (.int .i64 (D.normZ a)) ∧ Below w.heap.size w w' := by
  have F := fld hD
  have h2 := F.q2
  have hm6 := F.m6
  have HM : Hid (ModAt D v D.md w ∧ D ∈ fieldsL ∧ Fld D) := ⟨hM, hD, F⟩
  clear hM hD F
  by_cases ha : D.has a = true
  · obtain ⟨x, rfl, hx⟩ := has_nat ha
    have HV : Hid (D.normZ x = (D.normTo x D.m : Nat)) := by show _ = _; rw [FD.normZ, if_pos ha]; rfl
    unfold rf
    go_enter Try.func38, Try.ntmps38
    go_wp2_with fail
    refine (rhas_any D gen v x _).mono ?_
    rintro e w1 ⟨rfl, hb1⟩
    have HX1 : Hid (Box w.heap.size D gen v w1 ∧ Below w.heap.size w w1) := ⟨(box_new D gen v w).below hb1 (by simp), ((Below.refl _ _).alloc (Nat.le_refl _) _).trans (hb1.mono (by simp))⟩
    have hs1 : w.heap.size < w1.heap.size := by have := hb1.size; simp at this; omega
    clear hb1
    go_wp2
    go_loopw [5, 6] (fun s i wr => ∃ j : Nat, j ≤ D.m ∧ i = .int .i64 j ∧ s = .int .i64 (D.normTo x j : Nat) ∧ Box w.heap.size D gen v wr ∧ Below w.heap.size w wr ∧ w.heap.size < wr.heap.size) (fun _ i _ => D.m - (intOf i).toNat)
    case atStart => exact ⟨0, by omega, rfl, rfl, HX1.out.1, HX1.out.2, hs1⟩
    case round =>
      obtain ⟨j, hj, rfl, rfl, hbox, hbel, hlt⟩ := hrel
      obtain ⟨c0, c1, c2, c3, c4⟩ := hbox
      have HG : Hid (Box w.heap.size D gen v wr ∧ Below w.heap.size w wr) := ⟨⟨c0, c1, c2, c3, c4⟩, hbel⟩
      clear hbel
      by_cases hjm : j < D.m
      · have HC : Hid (Calls Try.prog 34 #[.agg #[.int .i64 D.q, .int .i64 D.p, .int .i64 D.m, .int .i64 gen, v], .int .i64 x, .int .i64 j] wr fun e w' => e = .returned (.int .i64 (again D.frob1 j x : Nat)) ∧ Below wr.heap.size wr w') := by
          have h := rfrob_any HM.out.2.1 gen x j (HM.out.1.below HG.out.2)
          rw [frobZ_nat ha hjm] at h; exact h
        go_wp2_with fail
        refine HC.out.mono ?_
        rintro e w2 ⟨rfl, hb2⟩
        have HR2 : Hid (Box w.heap.size D gen v w2 ∧ Below w.heap.size w w2) := ⟨HG.out.1.below hb2 hlt, HG.out.2.trans (hb2.mono (by omega))⟩
        have hlt2 : w.heap.size < w2.heap.size := by have := hb2.size; omega
        clear hb2 c0 c1 c2 c3 c4 HC
        obtain ⟨c0, c1, c2, c3, c4⟩ := HR2.out.1
        have HC2 : Hid (Calls Try.prog 24 #[.agg #[.int .i64 D.q, .int .i64 D.p, .int .i64 D.m, .int .i64 gen, v], .int .i64 (D.normTo x j : Nat), .int .i64 (again D.frob1 j x : Nat)] w2 fun e w' => e = .returned (.int .i64 (D.normTo x (j + 1) : Nat)) ∧ Below w2.heap.size w2 w') := by
          exact rmul_nat HM.out.2.1 gen HM.out.1 _ _ (normTo_lt HM.out.2.1 x j) (frob_lt HM.out.2.1 x hx j) w2 HR2.out.2
        go_wp2_with fail
        refine HC2.out.mono ?_
        rintro e w3 ⟨rfl, hb3⟩
        have HR3 : Hid (Box w.heap.size D gen v w3 ∧ Below w.heap.size w w3 ∧ w.heap.size < w3.heap.size) := ⟨HR2.out.1.below hb3 hlt2, HR2.out.2.trans (hb3.mono (by omega)), by have := hb3.size; omega⟩
        clear hb3 c0 c1 c2 c3 c4 HC2
        go_wp2
        go_roundw
        case rel => exact ⟨j + 1, by omega, by go_num, rfl, HR3.out⟩
        case measure => simp [intOf]; omega
      · have HE : Hid (j = D.m) := by show j = D.m; omega
        go_wp2
        go_ret
        exact ⟨ret_int (by rw [HV.out, HE.out]), HG.out.2⟩
  · have ha' : D.has a = false := by simpa using ha
    have HV : Hid (D.normZ a = -1) := by show _ = _; rw [FD.normZ, if_neg (by simp [ha'])]
    clear ha
    unfold rf
    go_enter Try.func38, Try.ntmps38
    go_wp2_with fail
    refine (rhas_any D gen v a _).mono ?_
    rintro e w1 ⟨rfl, hb1⟩
    have HB1 : Hid (Below w.heap.size w w1) := ((Below.refl _ _).alloc (Nat.le_refl _) _).trans (hb1.mono (by simp))
    clear hb1
    go_wp2
    go_ret
    exact ⟨ret_int (by rw [HV.out]), HB1.out⟩
end Go.Proofs.Ytaihjfpenbjdiaa

/- The reference: are two lists the same (Same); the elements of a smaller field (Within). -/
namespace Go.Proofs.Ytaihjfpenbjdiaa
open Go.RowKit

/-- The slice v reads as the numbers l. -/
def SliceI (v : Value) (l : List Int) (w : World) : Prop :=
  (l = [] ∧ ∃ ao cap, v = .slice ao 0 cap) ∨ (l ≠ [] ∧ l.length ≤ 1000000 ∧ ∃ b off cap, v = .slice (some ⟨b, off, none⟩) l.length cap ∧ ∀ j, j < l.length → w.cell? ⟨b, off + j, none⟩ = some (.int .i64 (l.getD j 0)))
theorem OwnI.slice {base : Nat} {v : Value} {l : List Int} {w : World} (h : OwnI base v l w) (hl : l.length ≤ 1000000) : SliceI v l w := by
  by_cases e : l = []
  · refine Or.inl ⟨e, ?_⟩
    rcases h.2 with ⟨h1, _⟩ | ⟨g, cap, cur, hv, _⟩
    · exact ⟨none, 0, h1⟩
    · rw [e] at hv; exact ⟨_, cap, hv⟩
  · obtain ⟨g, cap, hv, _, _, hc, _⟩ := h.at e
    exact Or.inr ⟨e, hl, g, 0, cap, hv, fun j hj => by rw [Nat.zero_add]; exact hc j hj⟩
theorem SliceI.below {B : Nat} {v : Value} {l : List Int} {w w' : World} (h : SliceI v l w) (hb : Below B w w') (hB : ∀ k, v.ownBlock = some k → k < B) : SliceI v l w' := by
  rcases h with h | ⟨h1, h2, b, off, cap, rfl, hc⟩
  · exact Or.inl h
  · exact Or.inr ⟨h1, h2, b, off, cap, rfl, fun j hj => ((bcell hb).1 b (off + j) (hB b rfl)).trans (hc j hj)⟩
theorem SliceI.drewN {v : Value} {l : List Int} {w : World} (h : SliceI v l w) (n : Nat) : SliceI v l (w.drewN n) := h

theorem list_ext_getD (l m : List Int) (h : l.length = m.length) (e : ∀ j, j < l.length → l.getD j 0 = m.getD j 0) : l = m := by
  apply List.ext_getElem h
  intro i h1 h2
  have := e i h1
  rwa [List.getD_eq_getElem?_getD, List.getD_eq_getElem?_getD, List.getElem?_eq_getElem h1, List.getElem?_eq_getElem h2] at this

set_option maxHeartbeats 2000000 in
theorem same_any {va vb : Value} {la lb : List Int} {w : World} (ha : SliceI va la w) (hb : SliceI vb lb w) :
    Calls Try.prog 15 #[va, vb] w fun e w' => e = .returned (.bool (decide (la = lb))) ∧ ∃ n, w' = w.drewN n := by
  by_cases hlen : la.length = lb.length
  · rcases ha with ⟨rfl, ao, ca, rfl⟩ | ⟨h1, h2, b, off, cap, rfl, hc⟩
    · have h0 : lb = [] := List.length_eq_zero_iff.1 hlen.symm
      subst h0
      rcases hb with ⟨_, bo, cb, rfl⟩ | ⟨h3, _⟩
      · clear hlen
        go_enter Try.func15, Try.ntmps15
        go_wp2
        refine wp_loop_rounds 1 ?_
        rw [rounds_succ]
        go_wp2
        go_ret
        exact ⟨rfl, 0, rfl⟩
      · exact absurd rfl h3
    · rcases hb with ⟨rfl, bo, cb, rfl⟩ | ⟨h3, h4, b', off', cap', rfl, hc'⟩
      · exact absurd (List.length_eq_zero_iff.1 hlen) h1
      · obtain ⟨n, hn⟩ : ∃ n, n = la.length := ⟨_, rfl⟩
        rw [← hlen, ← hn]
        have HC : Hid ((∀ j, j < n → w.cell? ⟨b, off + j, none⟩ = some (.int .i64 (la.getD j 0))) ∧ (∀ j, j < n → w.cell? ⟨b', off' + j, none⟩ = some (.int .i64 (lb.getD j 0)))) := ⟨fun j hj => hc j (by omega), fun j hj => hc' j (by omega)⟩
        have HL : Hid (n = la.length ∧ la.length = lb.length) := ⟨hn, hlen⟩
        have hnb : n ≤ 1000000 := by omega
        clear hc hc' h1 h2 h3 h4 hlen hn
        go_enter Try.func15, Try.ntmps15
        go_wp2
        go_loopw [5] (fun i wr => ∃ k : Nat, k ≤ n ∧ i = .int .i64 k ∧ Hid (∀ j, j < k → la.getD j 0 = lb.getD j 0) ∧ ∃ d, wr = w.drewN d) (fun i _ => n - (intOf i).toNat)
        case atStart => exact ⟨0, by omega, rfl, fun j hj => by omega, 0, rfl⟩
        case round =>
          obtain ⟨k, hk, rfl, HK, d, rfl⟩ := hrel
          by_cases hlt : k < n
          · have c1 := HC.out.1 k hlt
            have c2 := HC.out.2 k hlt
            obtain ⟨x, hx⟩ : ∃ x, x = la.getD k 0 := ⟨_, rfl⟩
            obtain ⟨y, hy⟩ : ∃ y, y = lb.getD k 0 := ⟨_, rfl⟩
            rw [← hx] at c1
            rw [← hy] at c2
            have HX : Hid (x = la.getD k 0 ∧ y = lb.getD k 0) := ⟨hx, hy⟩
            clear hx hy
            by_cases he : x = y
            · have hb : (x != y) = false := by rw [he]; simp
              have HK2 : Hid (∀ j, j < k + 1 → la.getD j 0 = lb.getD j 0) := fun j hj => if e : j = k then by rw [e, ← HX.out.1, ← HX.out.2, he] else HK.out j (by omega)
              clear he
              go_wp2
              go_quiet (fail)
              go_wp2
              go_roundw
              case rel => exact ⟨k + 1, by omega, by go_num, HK2.out, _, rfl⟩
              case measure => simp [intOf]; omega
            · have hb : (x != y) = true := by rw [bne_iff_ne]; exact he
              have HV : Hid (decide (la = lb) = false) := by
                show _ = _
                rw [decide_eq_false_iff_not]; intro e; exact he (by rw [HX.out.1, HX.out.2, e])
              clear he
              go_wp2
              go_quiet (fail)
              go_wp2
              go_ret
              exact ⟨ret_bool (by rw [HV.out]), _, by rw [World.drewN_drewN]⟩
          · have HV : Hid (decide (la = lb) = true) := by
              show _ = _
              rw [decide_eq_true_eq]; exact list_ext_getD la lb HL.out.2 (fun j hj => HK.out j (by have := HL.out.1; omega))
            go_wp2
            go_ret
            exact ⟨ret_bool (by rw [HV.out]), _, rfl⟩
  · have HV : Hid (decide (la = lb) = false) := by
      show _ = _
      rw [decide_eq_false_iff_not]; intro e; exact hlen (by rw [e])
    obtain ⟨ao, ca, ea⟩ : ∃ ao ca, va = .slice ao la.length ca := by
      rcases ha with ⟨rfl, ao, ca, rfl⟩ | ⟨_, _, b, off, cap, rfl, _⟩
      · exact ⟨ao, ca, rfl⟩
      · exact ⟨_, cap, rfl⟩
    obtain ⟨bo, cb, eb⟩ : ∃ bo cb, vb = .slice bo lb.length cb := by
      rcases hb with ⟨rfl, ao, ca, rfl⟩ | ⟨_, _, b, off, cap, rfl, _⟩
      · exact ⟨ao, ca, rfl⟩
      · exact ⟨_, cap, rfl⟩
    subst ea eb
    have hne : (((la.length : Nat) : Int) != ((lb.length : Nat) : Int)) = true := by rw [bne_iff_ne]; exact_mod_cast hlen
    generalize la.length = n at *
    generalize lb.length = m at *
    clear ha hb hlen
    go_enter Try.func15, Try.ntmps15
    go_wp2
    go_ret
    exact ⟨ret_bool (by rw [HV.out]), 0, rfl⟩
end Go.Proofs.Ytaihjfpenbjdiaa

/- The reference: is a number in a list (In). -/
namespace Go.Proofs.Ytaihjfpenbjdiaa
open Go.RowKit

theorem mem_getD {l : List Int} {x : Int} : x ∈ l ↔ ∃ j, j < l.length ∧ l.getD j 0 = x := by
  constructor
  · intro h
    obtain ⟨j, hj, e⟩ := List.getElem_of_mem h
    exact ⟨j, hj, by rw [List.getD_eq_getElem?_getD, List.getElem?_eq_getElem hj]; exact e⟩
  · rintro ⟨j, hj, e⟩
    rw [List.getD_eq_getElem?_getD, List.getElem?_eq_getElem hj] at e
    rw [← e]; exact List.getElem_mem hj

set_option maxHeartbeats 2000000 in
theorem in_any {v : Value} {l : List Int} {w : World} (x : Int) (h : SliceI v l w) :
    Calls Try.prog 101 #[.int .i64 x, v] w fun e w' => e = .returned (.bool (decide (x ∈ l))) ∧ ∃ n, w' = w.drewN n := by
  rcases h with ⟨rfl, ao, ca, rfl⟩ | ⟨h1, h2, b, off, cap, rfl, hc⟩
  · go_enter Try.func101, Try.ntmps101
    go_wp2
    refine wp_loop_rounds 1 ?_
    rw [rounds_succ]
    go_wp2
    go_ret
    exact ⟨rfl, 0, rfl⟩
  · obtain ⟨n, hn⟩ : ∃ n, n = l.length := ⟨_, rfl⟩
    rw [← hn]
    have HC : Hid ((∀ j, j < n → w.cell? ⟨b, off + j, none⟩ = some (.int .i64 (l.getD j 0))) ∧ n = l.length) := ⟨fun j hj => hc j (by omega), hn⟩
    have hnb : n ≤ 1000000 := by omega
    clear hc h1 h2 hn
    go_enter Try.func101, Try.ntmps101
    go_wp2
    go_loopw [5] (fun i wr => ∃ k : Nat, k ≤ n ∧ i = .int .i64 k ∧ Hid (∀ j, j < k → l.getD j 0 ≠ x) ∧ ∃ d, wr = w.drewN d) (fun i _ => n - (intOf i).toNat)
    case atStart => exact ⟨0, by omega, rfl, fun j hj => by omega, 0, rfl⟩
    case round =>
      obtain ⟨k, hk, rfl, HK, d, rfl⟩ := hrel
      by_cases hlt : k < n
      · have c1 := HC.out.1 k hlt
        obtain ⟨y, hy⟩ : ∃ y, y = l.getD k 0 := ⟨_, rfl⟩
        rw [← hy] at c1
        have HX : Hid (y = l.getD k 0) := hy
        clear hy
        by_cases he : y = x
        · have hb : (y == x) = true := beq_iff_eq.2 he
          have HV : Hid (decide (x ∈ l) = true) := by
            show _ = _
            rw [decide_eq_true_eq]; exact mem_getD.2 ⟨k, by have := HC.out.2; omega, by rw [← HX.out, he]⟩
          clear he
          go_wp2
          go_ret
          exact ⟨ret_bool (by rw [HV.out]), _, by first | rfl | rw [World.drewN_drewN]⟩
        · have hb : (y == x) = false := beq_eq_false_iff_ne.2 he
          have HK2 : Hid (∀ j, j < k + 1 → l.getD j 0 ≠ x) := fun j hj => if e : j = k then by rw [e, ← HX.out]; exact he else HK.out j (by omega)
          clear he
          go_wp2
          go_roundw
          case rel => exact ⟨k + 1, by omega, by go_num, HK2.out, _, rfl⟩
          case measure => simp [intOf]; omega
      · have HV : Hid (decide (x ∈ l) = false) := by
          show _ = _
          rw [decide_eq_false_iff_not]; intro e
          obtain ⟨j, hj, e⟩ := mem_getD.1 e
          exact HK.out j (by have := HC.out.2; omega) e
        go_wp2
        go_ret
        exact ⟨ret_bool (by rw [HV.out]), _, rfl⟩
end Go.Proofs.Ytaihjfpenbjdiaa
