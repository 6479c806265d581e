/- Rings: is the way around kept (the reference's goes)? -/
import Derived.Test.YthkjaiihlphgfaaZS36
import Derived.Test.YthkjaiihlphgfaaZKH8
import Derived.Test.YthkjaiihlphgfaaZR5
import Derived.Test.YthkjaiihlphgfaaZL10
namespace Go.Proofs.Ythkjaiihlphgfaa
open Go.RowKit Go.Sort

/-- A stack, its top last. -/
def rvl (st : List Nat) : List Int := st.reverse.map fun x => ((x : Nat) : Int)
theorem rvl_cons (y : Nat) (st : List Nat) : rvl (y :: st) = rvl st ++ [(y : Int)] := by
  unfold rvl
  rw [List.reverse_cons, List.map_append]; rfl
theorem rvl_len (st : List Nat) : (rvl st).length = st.length := by
  unfold rvl
  rw [List.length_map, List.length_reverse]
/-- The bits of a number, laid in a row of truths. -/
def RowB (g n m : Nat) (w : World) : Prop := RowF g n 4 (fun j => .bool (m.testBit j)) w
theorem RowB.on {g n m k : Nat} {w : World} (h : RowB g n m w) : RowB g n (m ||| 2 ^ k) (w.setCell ⟨g, k, none⟩ (.bool true)) :=
  (RowF.store h k (.bool true)).congr fun o _ => by
    show upd _ k (Value.bool true) o = Value.bool ((m ||| 2 ^ k).testBit o)
    unfold upd
    rw [Nat.testBit_or, Nat.testBit_two_pow]
    by_cases e : o = k
    · rw [if_pos e, decide_eq_true e.symm, Bool.or_true]
    · rw [if_neg e, decide_eq_false (fun h => e h.symm), Bool.or_false]
theorem RowB.off {g n m k : Nat} {w : World} (h : RowB g n m w) (hk : m.testBit k = true) : RowB g n (m ^^^ 2 ^ k) (w.setCell ⟨g, k, none⟩ (.bool false)) :=
  (RowF.store h k (.bool false)).congr fun o _ => by
    show upd _ k (Value.bool false) o = Value.bool ((m ^^^ 2 ^ k).testBit o)
    unfold upd
    rw [Nat.testBit_xor, Nat.testBit_two_pow]
    by_cases e : o = k
    · rw [if_pos e, decide_eq_true e.symm, e, hk]; rfl
    · rw [if_neg e, decide_eq_false (fun h => e h.symm), Bool.xor_false]
theorem RowB.back {g n m k : Nat} {w : World} (h : RowB g n (m ^^^ 2 ^ k) w) (hk : m.testBit k = true) : RowB g n m (w.setCell ⟨g, k, none⟩ (.bool true)) :=
  (RowF.store h k (.bool true)).congr fun o _ => by
    show upd _ k (Value.bool true) o = Value.bool (m.testBit o)
    unfold upd
    by_cases e : o = k
    · rw [if_pos e, e, hk]
    · rw [if_neg e]
      show Value.bool ((m ^^^ 2 ^ k).testBit o) = Value.bool (m.testBit o)
      rw [Nat.testBit_xor, Nat.testBit_two_pow, decide_eq_false (fun h => e h.symm), Bool.xor_false]
theorem OwnI.pop {base g n cap : Nat} {xs : List Int} {x : Int} {w : World} (h : OwnI base (.slice (some ⟨g, 0, none⟩) (n + 1) cap) (xs ++ [x]) w) (hn : xs.length = n) : OwnI base (.slice (some ⟨g, 0, none⟩) n cap) xs w := by
  obtain ⟨h1, h2⟩ := h
  rcases h2 with ⟨h2, _⟩ | ⟨g', cap', cur, hv, hg, hh, hle, hcm, hsz, htake⟩
  · cases h2
  · have hl : (xs ++ [x]).length = n + 1 := by rw [List.length_append, hn]; rfl
    rw [hl] at hv hle htake
    cases hv
    refine ⟨by rw [List.length_map]; omega, Or.inr ⟨g, cap, cur, by rw [hn], hg, hh, ?_, hcm, hsz, ?_⟩⟩
    · omega
    · have h3 := congrArg (List.take (xs.length * 1)) htake
      rw [List.take_take, List.map_append, Nat.min_eq_left (by omega)] at h3
      rw [h3, List.take_left' (by rw [List.length_map]; omega)]
/-- How a stack and its counts stay small. -/
theorem gin_few (q nodes left x : Nat) (s : List Nat × Nat × Nat) : ∀ c, (gin q nodes left x s c).2.2 ≤ s.2.2 + c ∧ (gin q nodes left x s c).1.length ≤ s.1.length + c ∧ ((∀ y ∈ s.1, y < nodes) → 0 < nodes → ∀ y ∈ (gin q nodes left x s c).1, y < nodes)
  | 0 => ⟨Nat.le_refl _, Nat.le_refl _, fun h _ => h⟩
  | c + 1 => by
    have h := gin_few q nodes left x s c
    show (gstp q nodes left x (gin q nodes left x s c) c).2.2 ≤ _ ∧ (gstp q nodes left x (gin q nodes left x s c) c).1.length ≤ _ ∧ (_ → _ → ∀ y ∈ (gstp q nodes left x (gin q nodes left x s c) c).1, y < nodes)
    unfold gstp
    split
    · split
      · exact ⟨by have := h.1; show (gin q nodes left x s c).2.2 + 1 ≤ s.2.2 + (c + 1); omega, by have := h.2.1; show (gin q nodes left x s c).1.length ≤ s.1.length + (c + 1); omega, h.2.2⟩
      · refine ⟨by have := h.1; show (gin q nodes left x s c).2.2 + 1 ≤ s.2.2 + (c + 1); omega, by have := h.2.1; show (((x * q + c) % nodes) :: (gin q nodes left x s c).1).length ≤ s.1.length + (c + 1); rw [List.length_cons]; omega, fun h1 h0 y hy => ?_⟩
        rcases List.mem_cons.1 hy with e | e
        · rw [e]; exact Nat.mod_lt _ h0
        · exact h.2.2 h1 h0 y e
    · exact ⟨by have := h.1; omega, by have := h.2.1; omega, h.2.2⟩
theorem gos_nil {q nodes left f seen n R : Nat} (h : gos q nodes left f [] seen n = some R) : n = R := by
  cases f with
  | zero => cases h
  | succ f => cases h; rfl
theorem gos_step {q nodes left f x seen n R : Nat} {st : List Nat} (h : gos q nodes left f (x :: st) seen n = some R) : ∃ g, f = g + 1 ∧ gos q nodes left g (gin q nodes left x (st, seen, n) q).1 (gin q nodes left x (st, seen, n) q).2.1 (gin q nodes left x (st, seen, n) q).2.2 = some R := by
  cases f with
  | zero => cases h
  | succ g => exact ⟨g, rfl, h⟩

set_option maxHeartbeats 16000000 in
set_option maxRecDepth 100000 in
theorem goes_any {GL q nodes all M at' v e : Nat} {r : Bool} {w : World} (hq : 2 ≤ q) (hq2 : q ≤ 10) (hno : nodes * q = all) (hal : all ≤ 300) (hn1 : 1 ≤ nodes) (hR : RowB GL all M w) (he : e = at' * q + v) (hea : e < all) (hbit : M.testBit e = true) (hgo : gok q nodes all M e = some r) :
    Calls Try.prog 86 #[.slice (some ⟨GL, 0, none⟩) all all, .int .i64 (q : Nat), .int .i64 (nodes : Nat), .int .i64 (at' : Nat), .int .i64 (v : Nat)] w fun x w' => x = .returned (.bool r) ∧ RowB GL all M w' ∧ (∀ g, g < w.heap.size → g ≠ GL → w'.heap[g]? = w.heap[g]?) ∧ ∀ B u, Below B u w → B ≤ GL → Below B u w' := by
  obtain ⟨M1, hM1⟩ : ∃ M1, M1 = M ^^^ 2 ^ e := ⟨_, rfl⟩
  obtain ⟨y0, hy0⟩ : ∃ y0, y0 = e % nodes := ⟨_, rfl⟩
  have hy0n : y0 < nodes := by rw [hy0]; exact Nat.mod_lt _ (by omega)
  obtain ⟨R, hgR, hrR⟩ : ∃ R, gos q nodes M1 400 [y0] (0 ||| 2 ^ y0) 0 = some R ∧ r = (R == cbt M1 all) := by
    unfold gok at hgo
    rw [← hM1, ← hy0] at hgo
    rw [Nat.zero_or]
    revert hgo
    cases gos q nodes M1 400 [y0] (2 ^ y0) 0 with
    | none => intro h; cases h
    | some R => intro h; cases h; exact ⟨R, rfl, rfl⟩
  obtain ⟨aq, haq⟩ : ∃ aq, aq = at' * q := ⟨_, rfl⟩
  have w1 : IntKind.i64.wrap ((at' : Int) * (q : Int)) = (aq : Int) := wrap_to (by rw [haq]; simp) (by omega)
  have w2 : IntKind.i64.wrap ((aq : Int) + (v : Int)) = (e : Int) := wrap_to (by omega) (by omega)
  have d1 : (e : Int).tmod (nodes : Int) = (y0 : Int) := by rw [hy0]; rfl
  have hn0 : ¬ (nodes : Int) = 0 := by omega
  have heb : (e : Int) < (all : Int) := by omega
  have heb0 : (0 : Int) ≤ (e : Int) := by omega
  have hyb : (y0 : Int) < (nodes : Int) := by omega
  have hyb0 : (0 : Int) ≤ (y0 : Int) := by omega
  have hnoI : nodes ≤ 300 := by
    have := Nat.le_mul_of_pos_right nodes (show 0 < q by omega)
    omega
  obtain ⟨wa, hwa⟩ : ∃ wa, wa = w.setCell ⟨GL, e, none⟩ (.bool false) := ⟨_, rfl⟩
  have hRa : RowB GL all M1 wa := by rw [hwa, hM1]; exact hR.off hbit
  have HF : Hid (RowB GL all M1 wa ∧ gos q nodes M1 400 [y0] (0 ||| 2 ^ y0) 0 = some R ∧ r = (R == cbt M1 all) ∧ M1 = M ^^^ 2 ^ e ∧ M.testBit e = true ∧ nodes * q = all) := ⟨hRa, hgR, hrR, hM1, hbit, hno⟩
  have HW : Hid ((∀ g, g ≠ GL → wa.heap[g]? = w.heap[g]?) ∧ wa.heap.size = w.heap.size ∧ ∀ B u, Below B u w → B ≤ GL → Below B u wa) := ⟨fun g hg => by rw [hwa]; exact Below.heap_setCell _ _ _ _ hg, by rw [hwa]; simp [World.setCell], fun B u hb hB => by rw [hwa]; exact setO_bel hb hB _⟩
  have hce := RowF.cell hR e hea
  have hfe := RowF.free hR e
  obtain ⟨b0, hb0⟩ : ∃ b0, b0 = M.testBit e := ⟨_, rfl⟩
  have hce : w.cell? ⟨GL, e, none⟩ = some (.bool b0) := by rw [hb0]; exact hce
  clear hR hRa hgR hrR hM1 hbit hno hgo he hy0 haq hb0
  go_enter Try.func86, Try.ntmps86
  go_wp2_with (first
    | (at_make; try rw [← hwa]; refine make_bool rfl _ _ rfl _ nodes rfl rfl rfl (by omega) ?_; intro w3 hrow3 hgrow3; rw [HW.out.2.1] at hrow3; have hrA := RowF.alloc hrow3 (.cells #[.int .i64 (y0 : Nat)] 3); have hcs := RowF.cell hrA y0 (by omega); have hfs := RowF.free hrA y0)
    | fail)
  obtain ⟨wS, hwS⟩ : ∃ wS, wS = (w3.alloc (.cells #[.int .i64 (y0 : Nat)] 3)).setCell ⟨w.heap.size, y0, none⟩ (.bool true) := ⟨_, rfl⟩
  obtain ⟨GS, hGS⟩ : ∃ GS, GS = w.heap.size := ⟨_, rfl⟩
  obtain ⟨LB, hLB⟩ : ∃ LB, LB = w3.heap.size := ⟨_, rfl⟩
  have H0 : Hid (RowB GS nodes (0 ||| 2 ^ y0) wS ∧ OwnI LB (.slice (some ⟨LB, 0, none⟩) [y0].length 1) (rvl [y0]) wS ∧ Below wa.heap.size wa wS ∧ GS < LB ∧ LB ≤ wS.heap.size ∧ GS = wa.heap.size) := by
    have hb3 : Below wa.heap.size wa w3 := below_grown hgrow3 (Nat.le_refl _) (fun k hk => by cases hk)
    have hr0 : RowB w.heap.size nodes 0 (w3.alloc (.cells #[.int .i64 (y0 : Nat)] 3)) := RowF.congr hrA fun o _ => by show Value.bool false = Value.bool (Nat.testBit 0 o); rw [Nat.zero_testBit]
    have hgs : w.heap.size < w3.heap.size := RowF.lt hrow3
    have h1 := HW.out.2.1
    refine ⟨by rw [hwS, hGS]; exact hr0.on, ?_, ?_, by omega, ?_, by omega⟩
    · rw [hwS, hLB]
      have ho : OwnI w3.heap.size (.slice (some ⟨w3.heap.size, 0, none⟩) 1 1) [(y0 : Int)] (w3.alloc (.cells #[.int .i64 (y0 : Nat)] 3)) := World.ownsRow_lit w3 #[.int .i64 (y0 : Nat)] 1 (Nat.le_refl _) (by unfold maxLen; omega) rfl
      exact ho.same (fun k hk => Below.heap_setCell _ _ _ _ (by have := (ho.lt k hk).1; show k ≠ w.heap.size; omega))
    · rw [hwS]
      exact setO_bel (bel_up' hb3 ((Below.refl _ _).alloc (Nat.le_refl _) _)) (by omega) _
    · rw [hwS, hLB]; simp [World.setCell]
  rw [← hwS, ← hGS, ← hLB]
  clear hwS hrow3 hgrow3 hrA hcs hfs hce hfe hwa hLB hGS
  go_loopg [12, 13] 400 (fun gk vl vn wr => ∃ (st : List Nat) (seen n lo lc : Nat), vl = .slice (some ⟨lo, 0, none⟩) st.length lc ∧ vn = .int .i64 (n : Nat) ∧ Hid (gos q nodes M1 gk st seen n = some R ∧ OwnI LB (.slice (some ⟨lo, 0, none⟩) st.length lc) (rvl st) wr ∧ (∀ y ∈ st, y < nodes) ∧ RowB GS nodes seen wr ∧ Below wa.heap.size wa wr ∧ n + 10 * gk ≤ 4000 ∧ st.length + 10 * gk ≤ 4001))
  case atStart => exact ⟨[y0], _, 0, LB, 1, rfl, rfl, HF.out.2.1, H0.out.2.1, fun y hy => by rw [List.mem_singleton.1 hy]; exact hy0n, H0.out.1, H0.out.2.2.1, by omega, by show 1 + 10 * 400 ≤ 4001; omega⟩
  case round =>
    obtain ⟨st, seen, n, lo, lc, rfl, rfl, HG⟩ := hrel
    rename World => wr
    cases st with
    | nil =>
      have hnR : n = R := gos_nil HG.out.1
      have HE : Hid (n = R ∧ Below wa.heap.size wa wr ∧ RowB GL all M1 wr) := ⟨hnR, HG.out.2.2.2.2.1, RowF.below HF.out.1 HG.out.2.2.2.2.1 (RowF.lt HF.out.1)⟩
      clear hnR
      go_wp2
      go_loopw [17, 18] (fun va vi wx => ∃ (i a : Nat), i ≤ all ∧ va = .int .i64 (a : Nat) ∧ vi = .int .i64 (i : Nat) ∧ a ≤ i ∧ Hid (a = cbt M1 i ∧ wx = wr)) (fun _ vi _ => all - (intOf vi).toNat)
      case atStart => exact ⟨0, 0, by omega, rfl, rfl, by omega, rfl, rfl⟩
      case round =>
        obtain ⟨i, a, hi, rfl, rfl, hai, HJ⟩ := hrel
        rename World => wx
        have hwx : wx = wr := HJ.out.2
        subst hwx
        by_cases hlt : i < all
        · have hib : (i : Int) < (all : Int) := by omega
          have hib0 : (0 : Int) ≤ (i : Int) := by omega
          have hci := RowF.cell HE.out.2.2 i hlt
          obtain ⟨bt, hbt⟩ : ∃ bt, bt = M1.testBit i := ⟨_, rfl⟩
          replace hci : wx.cell? ⟨GL, i, none⟩ = some (.bool bt) := by rw [hbt]; exact hci
          cases bt with
          | true =>
            have HV : Hid (a + 1 = cbt M1 (i + 1)) := by show a + 1 = cbt M1 i + if M1.testBit i then 1 else 0; rw [← hbt, HJ.out.1]; rfl
            clear hbt
            go_wp2
            go_roundw
            case rel => exact ⟨i + 1, a + 1, by omega, by go_num, by go_num, by omega, HV.out, by first | rfl | trivial⟩
            case measure => simp [intOf]; omega
          | false =>
            have HV : Hid (a = cbt M1 (i + 1)) := by show a = cbt M1 i + if M1.testBit i then 1 else 0; rw [← hbt, HJ.out.1]; rfl
            clear hbt
            go_wp2
            go_roundw
            case rel => exact ⟨i + 1, a, by omega, by first | rfl | go_num, by go_num, by omega, HV.out, by first | rfl | trivial⟩
            case measure => simp [intOf]; omega
        · have hib : ¬ (i : Int) < (all : Int) := by omega
          have hie : i = all := by omega
          obtain ⟨wz, hwz⟩ : ∃ wz, wz = wx.setCell ⟨GL, e, none⟩ (.bool true) := ⟨_, rfl⟩
          have HZ : Hid (r = decide ((n : Int) = (a : Int)) ∧ RowB GL all M wz ∧ (∀ g, g < w.heap.size → g ≠ GL → wz.heap[g]? = w.heap[g]?) ∧ ∀ B u, Below B u w → B ≤ GL → Below B u wz) := by
            have h1 := HW.out
            have hsz := HW.out.2.1
            have hgl := RowF.lt HF.out.1
            refine ⟨?_, ?_, fun g hg hg2 => ?_, fun B u hb hB => ?_⟩
            · rw [HF.out.2.2.1, ← hie, ← HJ.out.1, ← HE.out.1]
              by_cases e1 : n = a
              · rw [e1, beq_self_eq_true, decide_eq_true rfl]
              · rw [beq_eq_false_iff_ne.2 e1, decide_eq_false (by omega)]
            · rw [hwz]
              have h2 := HE.out.2.2
              rw [HF.out.2.2.2.1] at h2
              exact h2.back HF.out.2.2.2.2.1
            · rw [hwz, Below.heap_setCell _ _ _ _ hg2, HE.out.2.1.block g (by omega), h1.1 g hg2]
            · rw [hwz]
              exact setO_bel ((h1.2.2 B u hb hB).trans (HE.out.2.1.mono (by omega))) hB _
          have hce := RowF.cell HE.out.2.2 e hea
          have hfe := RowF.free HE.out.2.2 e
          obtain ⟨b1, hb1⟩ : ∃ b1, b1 = M1.testBit e := ⟨_, rfl⟩
          have hce2 : wx.cell? ⟨GL, e, none⟩ = some (.bool b1) := by rw [hb1]; exact hce
          clear hce hb1 hie
          by_cases e1 : n = a
          · have hz : ((n : Int) == (a : Int)) = true := by rw [e1]; simp
            have HR2 : Hid (r = true) := by show r = true; rw [HZ.out.1, e1]; simp
            clear e1
            go_wp2
            try rw [← hwz]
            clear hwz hce2 hfe
            go_ret
            exact ⟨by rw [HR2.out]; rfl, HZ.out.2⟩
          · have hz : ((n : Int) == (a : Int)) = false := by rw [beq_eq_false_iff_ne]; omega
            have HR2 : Hid (r = false) := by show r = false; rw [HZ.out.1]; exact decide_eq_false (by omega)
            clear e1
            go_wp2
            try rw [← hwz]
            clear hwz hce2 hfe
            go_ret
            exact ⟨by rw [HR2.out]; rfl, HZ.out.2⟩
    | cons x st =>
      obtain ⟨g2, hgk, hst⟩ := gos_step HG.out.1
      have hxn : x < nodes := HG.out.2.2.1 x (List.mem_cons_self ..)
      obtain ⟨l0, hl0⟩ : ∃ l0, l0 = st.length := ⟨_, rfl⟩
      have hel : (x :: st).length = l0 + 1 := by rw [hl0]; rfl
      have hown := HG.out.2.1
      rw [hel, rvl_cons] at hown
      have hne : rvl st ++ [(x : Int)] ≠ [] := fun h => by have := congrArg List.length h; rw [List.length_append] at this; cases this
      obtain ⟨g', cap', hv', _, _, hcells, _⟩ := hown.at hne
      have hll : (rvl st ++ [(x : Int)]).length = l0 + 1 := by rw [List.length_append, rvl_len, hl0]; rfl
      rw [hll] at hv' hcells
      cases hv'
      have hcx := hcells l0 (by omega)
      rw [List.getD_eq_getElem?_getD, List.getElem?_append_right (by rw [rvl_len]; omega), rvl_len, hl0, Nat.sub_self] at hcx
      replace hcx : wr.cell? ⟨lo, l0, none⟩ = some (.int .i64 (x : Nat)) := by rw [hl0]; exact hcx
      have hlc : l0 + 1 ≤ lc := by
        rcases hown.2 with ⟨h2, _⟩ | ⟨g1, cap1, cur, hv1, _, _, hle, _⟩
        · cases h2
        · rw [hll] at hle
          simp only [Value.slice.injEq, hll] at hv1
          omega
      have hlcb : (l0 : Int) ≤ (lc : Int) := by omega
      have hp0 : (0 : Int) < ((l0 + 1 : Nat) : Int) := by omega
      have hwl : IntKind.i64.wrap (((l0 + 1 : Nat) : Int) - 1) = (l0 : Int) := wrap_to (by omega) (by have := HG.out.2.2.2.2.2.2; omega)
      have hwl2 : IntKind.i64.wrap (l0 : Int) = (l0 : Int) := wrap_to rfl (by have := HG.out.2.2.2.2.2.2; omega)
      have hwl3 : IntKind.i64.wrap ((l0 : Int) + 1 - 1) = (l0 : Int) := wrap_to (by omega) (by have := HG.out.2.2.2.2.2.2; omega)
      have hlb : (l0 : Int) < ((l0 + 1 : Nat) : Int) := by omega
      have hlb2 : (l0 : Int) < (l0 : Int) + 1 := by omega
      have hp02 : (0 : Int) < (l0 : Int) + 1 := by omega
      have hlb0 : (0 : Int) ≤ (l0 : Int) := by omega
      have HP : Hid (gos q nodes M1 g2 (gin q nodes M1 x (st, seen, n) q).1 (gin q nodes M1 x (st, seen, n) q).2.1 (gin q nodes M1 x (st, seen, n) q).2.2 = some R ∧ gk = g2 + 1 ∧ OwnI LB (.slice (some ⟨lo, 0, none⟩) l0 lc) (rvl st) wr ∧ l0 = st.length ∧ (∀ y ∈ st, y < nodes) ∧ n + 10 * gk ≤ 4000 ∧ l0 + 1 + 10 * gk ≤ 4001 ∧ RowB GS nodes seen wr ∧ Below wa.heap.size wa wr) := ⟨hst, hgk, hown.pop (by rw [rvl_len, hl0]), hl0, fun y hy => HG.out.2.2.1 y (List.mem_cons_of_mem _ hy), HG.out.2.2.2.2.2.1, by have := HG.out.2.2.2.2.2.2; omega, HG.out.2.2.2.1, HG.out.2.2.2.2.1⟩
      rw [hel]
      clear hst hgk hl0 hel hown hne hcells hll HG hlc
      go_wp2
      clear hcx
      go_loopw [12, 13, 15] (fun vl vn vc wx => ∃ (c s2 s3 lo' lc' : Nat) (s1 : List Nat), c ≤ q ∧ vc = .int .i64 (c : Nat) ∧ vn = .int .i64 (s3 : Nat) ∧ vl = .slice (some ⟨lo', 0, none⟩) s1.length lc' ∧ Hid ((s1, s2, s3) = gin q nodes M1 x (st, seen, n) c ∧ OwnI LB (.slice (some ⟨lo', 0, none⟩) s1.length lc') (rvl s1) wx ∧ RowB GS nodes s2 wx ∧ Below wa.heap.size wa wx)) (fun _ _ vc _ => q - (intOf vc).toNat)
      case atStart => exact ⟨0, seen, n, lo, lc, st, by omega, rfl, rfl, by rw [HP.out.2.2.2.1], rfl, by rw [← HP.out.2.2.2.1]; exact HP.out.2.2.1, HP.out.2.2.2.2.2.2.2.1, HP.out.2.2.2.2.2.2.2.2⟩
      case round =>
        obtain ⟨c, s2, s3, lo', lc', s1, hc, rfl, rfl, rfl, HJ⟩ := hrel
        rename World => wx
        have hgf := gin_few q nodes M1 x (st, seen, n) c
        rw [← HJ.out.1] at hgf
        have hs3 : s3 ≤ 4010 := by have h1 := hgf.1; have h2 := HP.out.2.2.2.2.2.1; have h1 : s3 ≤ n + c := h1; omega
        have hs1 : s1.length ≤ 4100 := by have h1 : s1.length ≤ st.length + c := hgf.2.1; have h2 := HP.out.2.2.2.2.2.2.1; have h3 := HP.out.2.2.2.1; omega
        by_cases hlt : c < q
        · have hib : (c : Int) < (q : Int) := by omega
          obtain ⟨ee, hee⟩ : ∃ ee, ee = x * q + c := ⟨_, rfl⟩
          obtain ⟨xq, hxq⟩ : ∃ xq, xq = x * q := ⟨_, rfl⟩
          have heea : ee < all := by
            have h1 : (x + 1) * q ≤ nodes * q := Nat.mul_le_mul_right q hxn
            rw [Nat.succ_mul, HF.out.2.2.2.2.2] at h1
            omega
          have v1 : IntKind.i64.wrap ((x : Int) * (q : Int)) = (xq : Int) := wrap_to (by rw [hxq]; simp) (by omega)
          have v2 : IntKind.i64.wrap ((xq : Int) + (c : Int)) = (ee : Int) := wrap_to (by omega) (by omega)
          have hzb : (ee : Int) < (all : Int) := by omega
          have hzb0 : (0 : Int) ≤ (ee : Int) := by omega
          obtain ⟨y, hy⟩ : ∃ y, y = ee % nodes := ⟨_, rfl⟩
          have hyn : y < nodes := by rw [hy]; exact Nat.mod_lt _ (by omega)
          have d2 : (ee : Int).tmod (nodes : Int) = (y : Int) := by rw [hy]; rfl
          have hynb : (y : Int) < (nodes : Int) := by omega
          have hynb0 : (0 : Int) ≤ (y : Int) := by omega
          have hRL : RowB GL all M1 wx := RowF.below HF.out.1 HJ.out.2.2.2 (RowF.lt HF.out.1)
          have hcl0 := RowF.cell hRL ee heea
          obtain ⟨bt, hbt⟩ : ∃ bt, bt = M1.testBit ee := ⟨_, rfl⟩
          have hcl : wx.cell? ⟨GL, ee, none⟩ = some (.bool bt) := by rw [hbt]; exact hcl0
          have hcs0 := RowF.cell HJ.out.2.2.1 y hyn
          have hfs := RowF.free HJ.out.2.2.1 y
          obtain ⟨sb, hsb⟩ : ∃ sb, sb = s2.testBit y := ⟨_, rfl⟩
          have hcs : wx.cell? ⟨GS, y, none⟩ = some (.bool sb) := by rw [hsb]; exact hcs0
          have HN : Hid (gin q nodes M1 x (st, seen, n) (c + 1) = if bt then (if sb then (s1, s2, s3 + 1) else (y :: s1, s2 ||| 2 ^ y, s3 + 1)) else (s1, s2, s3)) := by
            show gstp q nodes M1 x (gin q nodes M1 x (st, seen, n) c) c = _
            rw [← HJ.out.1]
            unfold gstp
            rw [← hee, ← hbt, ← hy]
            show (if bt = true then (if s2.testBit y = true then (s1, s2, s3 + 1) else (y :: s1, s2 ||| 2 ^ y, s3 + 1)) else (s1, s2, s3)) = _
            rw [← hsb]
          clear hcl0 hcs0 hRL hgf hee hxq hy hbt hsb
          cases bt with
          | false =>
            go_wp2
            go_roundw
            case rel => exact ⟨c + 1, s2, s3, lo', lc', s1, by omega, by go_num, rfl, rfl, HN.out.symm, HJ.out.2⟩
            case measure => simp [intOf]; omega
          | true =>
            cases sb with
            | true =>
              go_wp2
              go_roundw
              case rel => exact ⟨c + 1, s2, s3 + 1, lo', lc', s1, by omega, by go_num, by go_num, rfl, HN.out.symm, HJ.out.2⟩
              case measure => simp [intOf]; omega
            | false =>
              have HM : Hid (RowB GS nodes (s2 ||| 2 ^ y) (wx.setCell ⟨GS, y, none⟩ (.bool true)) ∧ OwnI LB (.slice (some ⟨lo', 0, none⟩) s1.length lc') (rvl s1) (wx.setCell ⟨GS, y, none⟩ (.bool true)) ∧ Below wa.heap.size wa (wx.setCell ⟨GS, y, none⟩ (.bool true)) ∧ LB ≤ wx.heap.size) := by
                have h1 := H0.out.2.2.2.1
                refine ⟨RowB.on HJ.out.2.2.1, ?_, setO_bel HJ.out.2.2.2 (by have := H0.out.2.2.2.2.2; omega) _, ?_⟩
                · exact HJ.out.2.1.same (fun k hk => Below.heap_setCell _ _ _ _ (by have := (HJ.out.2.1.lt k hk).1; show k ≠ GS; omega))
                · have := (HJ.out.2.1.lt lo' rfl); omega
              obtain ⟨l1, hl1⟩ : ∃ l1, l1 = s1.length := ⟨_, rfl⟩
              have HL1 : Hid (l1 = s1.length) := hl1
              have hsm := HM.out.2.2.2
              rw [← hl1] at hs1 ⊢
              clear hl1
              go_wp2_with (first
                | (at_builtin; refine append_int rfl _ _ rfl LB (.slice (some ⟨lo', 0, none⟩) l1 lc') (rvl s1) rfl (by rw [HL1.out]; exact HM.out.2.1.alloc _) ⟨wx.heap.size, 0, none⟩ 1 (y : Int) rfl (by rw [show wx.heap.size = (wx.setCell ⟨GS, y, none⟩ (.bool true)).heap.size by simp [World.setCell], cell_of_row _ _ _ _ _ (0, 0) (two_new _)]; rfl) (by rw [rvl_len, ← HL1.out]; omega) (by simp [World.setCell]; omega) ?_; intro v9 w9 hown9 hg9)
                | fail)
              have HX : Hid (∃ lo2 lc2, v9 = .slice (some ⟨lo2, 0, none⟩) (y :: s1).length lc2 ∧ OwnI LB (.slice (some ⟨lo2, 0, none⟩) (y :: s1).length lc2) (rvl (y :: s1)) w9 ∧ RowB GS nodes (s2 ||| 2 ^ y) w9 ∧ Below wa.heap.size wa w9) := by
                rw [← rvl_cons] at hown9
                obtain ⟨g9, c9, hv9, _⟩ := hown9.at (by rw [rvl_cons]; intro h; have := congrArg List.length h; rw [List.length_append] at this; cases this)
                rw [rvl_len] at hv9
                have hb9 := HM.out.2.2.1.alloc (by have := HM.out.2.2.1.size; omega) (.cells #[.int .i64 (y : Nat)] 3)
                refine ⟨g9, c9, hv9, by rw [← hv9]; exact hown9, ?_, ?_⟩
                · refine RowF.grown (RowF.alloc HM.out.1 _) hg9 (fun h => ?_)
                  have h3 := H0.out.2.2.2.1
                  have h2 := (HM.out.2.1.lt lo' rfl).1
                  have h4 : GS = lo' := Option.some.inj h
                  omega
                · have h2 := (HM.out.2.1.lt lo' rfl).1
                  refine hb9.grown hg9 hb9.size (fun k hk => ?_)
                  have h4 : lo' = k := Option.some.inj hk
                  have h5 := H0.out.2.2.2.2.2
                  have h6 := H0.out.2.2.2.1
                  omega
              clear hown9 hg9
              obtain ⟨lo2, lc2, hv9, HX2⟩ := HX.out
              subst hv9
              go_roundw
              case rel => exact ⟨c + 1, s2 ||| 2 ^ y, s3 + 1, lo2, lc2, y :: s1, by omega, by go_num, by go_num, rfl, HN.out.symm, HX2⟩
              case measure => simp [intOf]; omega
        · have hib : ¬ (c : Int) < (q : Int) := by omega
          have hce' : c = q := by omega
          have HQ : Hid (gos q nodes M1 g2 s1 s2 s3 = some R ∧ OwnI LB (.slice (some ⟨lo', 0, none⟩) s1.length lc') (rvl s1) wx ∧ (∀ y ∈ s1, y < nodes) ∧ RowB GS nodes s2 wx ∧ Below wa.heap.size wa wx ∧ s3 + 10 * g2 ≤ 4000 ∧ s1.length + 10 * g2 ≤ 4001) := by
            have h0 := HP.out.1
            have h0' := HJ.out.1
            rw [hce'] at h0'
            rw [← h0'] at h0
            have h1 : s3 ≤ n + c := hgf.1
            have h2 : s1.length ≤ st.length + c := hgf.2.1
            have h3 := HP.out.2.2.2.2.2.1
            have h4 := HP.out.2.2.2.2.2.2.1
            have h5 := HP.out.2.2.2.1
            have h6 := HP.out.2.1
            exact ⟨h0, HJ.out.2.1, hgf.2.2 HP.out.2.2.2.2.1 (by omega), HJ.out.2.2.1, HJ.out.2.2.2, by omega, by omega⟩
          clear hce' hgf
          go_wp2
          go_roundg g2
          case measure => have := HP.out.2.1; omega
          case rel => exact ⟨s1, s2, s3, lo', lc', rfl, rfl, HQ.out⟩
end Go.Proofs.Ythkjaiihlphgfaa
