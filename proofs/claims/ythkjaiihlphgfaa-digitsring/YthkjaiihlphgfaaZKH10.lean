/- Rings, edge by edge (the reference's RingOf). -/
import Derived.Test.YthkjaiihlphgfaaZKH9
namespace Go.Proofs.Ythkjaiihlphgfaa
open Go.RowKit Go.Sort

theorem rof_step {q nodes all k M a : Nat} {acc L : List Nat} (h : rof q nodes all (k + 1) M a acc = some L) : ∃ V, fnd q nodes all M a q 0 = some V ∧ rof q nodes all k (M ^^^ 2 ^ (a * q + V)) ((a * q + V) % nodes) (acc ++ [V]) = some L := by
  have h : (match fnd q nodes all M a q 0 with | none => none | some v => rof q nodes all k (M ^^^ 2 ^ (a * q + v)) ((a * q + v) % nodes) (acc ++ [v])) = some L := h
  revert h
  cases fnd q nodes all M a q 0 with
  | none => intro h; cases h
  | some V => intro h; exact ⟨V, rfl, h⟩
theorem fnd_step {q nodes all M a r v V : Nat} (h : fnd q nodes all M a r v = some V) : ∃ r', r = r' + 1 ∧ ((M.testBit (a * q + v) = true ∧ gok q nodes all M (a * q + v) = some true ∧ V = v) ∨ (M.testBit (a * q + v) = true ∧ gok q nodes all M (a * q + v) = some false ∧ fnd q nodes all M a r' (v + 1) = some V) ∨ (M.testBit (a * q + v) = false ∧ fnd q nodes all M a r' (v + 1) = some V)) := by
  cases r with
  | zero => cases h
  | succ r =>
    refine ⟨r, rfl, ?_⟩
    have h : (if M.testBit (a * q + v) then (match gok q nodes all M (a * q + v) with | some true => some v | some false => fnd q nodes all M a r (v + 1) | none => none) else fnd q nodes all M a r (v + 1)) = some V := h
    by_cases e : M.testBit (a * q + v) = true
    · rw [if_pos e] at h
      revert h
      cases gok q nodes all M (a * q + v) with
      | none => intro h; cases h
      | some b =>
        cases b with
        | true => intro h; cases h; exact Or.inl ⟨e, rfl, rfl⟩
        | false => intro h; exact Or.inr (Or.inl ⟨e, rfl, h⟩)
    · rw [if_neg e] at h
      exact Or.inr (Or.inr ⟨Bool.eq_false_iff.2 e, h⟩)
/-- Only block G has changed, among what there was. -/
structure OfG (G : Nat) (w w' : World) : Prop where
  same : ∀ g, g < w.heap.size → g ≠ G → w'.heap[g]? = w.heap[g]?
  bel : ∀ B u, Below B u w → B ≤ G → Below B u w'
theorem OfG.size {G : Nat} {w w' : World} (h : OfG G w w') : w.heap.size ≤ w'.heap.size := (h.bel 0 w (Below.refl _ _) (Nat.zero_le _)).size
theorem OfG.refl (G : Nat) (w : World) : OfG G w w := ⟨fun _ _ _ => rfl, fun _ _ h _ => h⟩
theorem OfG.trans {G : Nat} {a b c : World} (h : OfG G a b) (h2 : OfG G b c) : OfG G a c := ⟨fun g hg hn => (h2.same g (Nat.lt_of_lt_of_le hg h.size) hn).trans (h.same g hg hn), fun B u hb hB => h2.bel B u (h.bel B u hb hB) hB⟩
theorem rowB_full {g n : Nat} {w : World} (h : RowF g n 4 (fun j => .bool (decide (j < n))) w) : RowB g n (2 ^ n - 1) w := RowF.congr h fun o ho => by show Value.bool (decide (o < n)) = Value.bool ((2 ^ n - 1).testBit o); rw [Nat.testBit_two_pow_sub_one]

set_option maxHeartbeats 16000000 in
set_option maxRecDepth 100000 in
theorem ringOf_any {q n all nodes : Nat} {L : List Nat} (hq : 2 ≤ q) (hq2 : q ≤ 10) (hn : 1 ≤ n) (hn2 : n ≤ 10) (hno : nodes * q = all) (hn1 : 1 ≤ nodes) (hal : all ≤ 300) (hL : rof q nodes all all (2 ^ all - 1) 0 (List.replicate (n - 1) 0) = some L) (w : World) :
    Calls Try.prog 48 #[.int .i64 (q : Nat), .int .i64 (n : Nat), .int .i64 (all : Nat)] w fun x w' => ∃ v, x = .returned v ∧ SliceI v (zl all (nzl L)) w' ∧ Below w.heap.size w w' := by
  have hd : (all : Int).tdiv (q : Int) = (nodes : Int) := by
    rw [Int.tdiv_eq_ediv_of_nonneg (by omega), ← hno, Int.natCast_mul]
    exact Int.mul_ediv_cancel _ (by omega)
  have hq0 : ¬ (q : Int) = 0 := by omega
  have hall1 : 1 ≤ all := by rw [← hno]; exact Nat.mul_le_mul hn1 (show 1 ≤ q by omega)
  have hnob : nodes ≤ 300 := by have := Nat.le_mul_of_pos_right nodes (show 0 < q by omega); omega
  have hwno : IntKind.i64.wrap (nodes : Int) = (nodes : Int) := wrap_to rfl (by omega)
  obtain ⟨n1, hn1e⟩ : ∃ n1, n1 = n - 1 := ⟨_, rfl⟩
  have hwn : IntKind.i64.wrap ((n : Int) - 1) = (n1 : Int) := wrap_to (by omega) (by omega)
  obtain ⟨an, han⟩ : ∃ an, an = all + n := ⟨_, rfl⟩
  obtain ⟨tot, htot⟩ : ∃ tot, tot = all + n1 := ⟨_, rfl⟩
  have hwa : IntKind.i64.wrap ((all : Int) + (n : Int)) = (an : Int) := wrap_to (by omega) (by omega)
  have hwt : IntKind.i64.wrap ((an : Int) - 1) = (tot : Int) := wrap_to (by omega) (by omega)
  rw [← hn1e] at hL
  have HF : Hid (rof q nodes all all (2 ^ all - 1) 0 (List.replicate n1 0) = some L ∧ nodes * q = all ∧ tot = all + n1) := ⟨hL, hno, htot⟩
  have htb : tot ≤ 310 ∧ all ≤ tot ∧ n1 ≤ 9 := by omega
  clear hL hno hn1e han htot
  go_enter Try.func48, Try.ntmps48
  go_wp2_with (first
    | (at_make; refine make_bool rfl _ _ rfl _ all rfl rfl rfl (by omega) ?_; intro w1 hrow1 hgrow1)
    | fail)
  obtain ⟨GL, hGL⟩ : ∃ GL, GL = w.heap.size := ⟨_, rfl⟩
  have H1 : Hid (RowF GL all 4 (fun j => .bool (decide (j < 0))) w1 ∧ Below w.heap.size w w1 ∧ GL = w.heap.size) := ⟨by rw [hGL]; exact RowF.congr hrow1 fun o _ => by show Value.bool false = Value.bool (decide (o < 0)); rw [decide_eq_false (by omega)], below_grown hgrow1 (Nat.le_refl _) (fun k hk => by cases hk), hGL⟩
  rw [← hGL]
  clear hrow1 hgrow1 hGL
  go_loopw [9] (fun vi wr => ∃ (i : Nat), i ≤ all ∧ vi = .int .i64 (i : Nat) ∧ Hid (RowF GL all 4 (fun j => .bool (decide (j < i))) wr ∧ Below w.heap.size w wr)) (fun vi _ => all - (intOf vi).toNat)
  case atStart => exact ⟨0, by omega, rfl, H1.out.1, H1.out.2.1⟩
  case round =>
    obtain ⟨i, hi, rfl, HG⟩ := hrel
    rename World => wr
    by_cases hlt : i < all
    · have hib : (i : Int) < (all : Int) := by omega
      have hib0 : (0 : Int) ≤ (i : Int) := by omega
      have hc0 := RowF.cell HG.out.1 i hlt
      obtain ⟨bt, hbt⟩ : ∃ bt, bt = decide (i < i) := ⟨_, rfl⟩
      have hc : wr.cell? ⟨GL, i, none⟩ = some (.bool bt) := by rw [hbt]; exact hc0
      have hf := RowF.free HG.out.1 i
      obtain ⟨ws, hws⟩ : ∃ ws, ws = wr.setCell ⟨GL, i, none⟩ (.bool true) := ⟨_, rfl⟩
      have HS : Hid (RowF GL all 4 (fun j => .bool (decide (j < i + 1))) ws ∧ Below w.heap.size w ws) := by
        refine ⟨?_, by rw [hws]; exact setO_bel HG.out.2 (by have := H1.out.2.2; omega) _⟩
        rw [hws]
        refine RowF.congr (RowF.store HG.out.1 i (.bool true)) fun o _ => ?_
        unfold upd
        by_cases e : o = i
        · rw [if_pos e, decide_eq_true (by omega)]
        · rw [if_neg e]
          show Value.bool (decide (o < i)) = Value.bool (decide (o < i + 1))
          by_cases e2 : o < i
          · rw [decide_eq_true e2, decide_eq_true (by omega)]
          · rw [decide_eq_false e2, decide_eq_false (by omega)]
      clear hc0 hbt
      go_wp2
      try rw [← hws]
      clear hws hc hf
      go_roundw
      case rel => exact ⟨i + 1, by omega, by go_num, HS.out⟩
      case measure => simp [intOf]; omega
    · have hib : ¬ (i : Int) < (all : Int) := by omega
      have hie : i = all := by omega
      have HB : Hid (RowB GL all (2 ^ all - 1) wr ∧ Below w.heap.size w wr) := by
        have h1 := HG.out
        rw [hie] at h1
        exact ⟨rowB_full h1.1, h1.2⟩
      clear hie
      go_wp2_with (first
        | (at_make; refine make_int rfl _ _ rfl _ n1 rfl rfl rfl (by omega) ?_; intro w2 hown2 hgrow2)
        | fail)
      have H2 : Hid (RowB GL all (2 ^ all - 1) w2 ∧ OwnI wr.heap.size (.slice (some ⟨wr.heap.size, 0, none⟩) (List.replicate n1 0).length n1) (zl (List.replicate n1 0).length (nzl (List.replicate n1 0))) w2 ∧ Below w.heap.size w w2 ∧ GL < wr.heap.size) := by
        have hb : Below wr.heap.size wr w2 := below_grown hgrow2 (Nat.le_refl _) (fun k hk => by cases hk)
        have hlt := RowF.lt HB.out.1
        refine ⟨RowF.below HB.out.1 hb hlt, ?_, bel_up' HB.out.2 hb, hlt⟩
        rw [List.length_replicate]
        have e : zl n1 (nzl (List.replicate n1 0)) = List.replicate n1 (0 : Int) := by
          rw [List.eq_replicate_iff]
          refine ⟨zl_len _ _, fun x hx => ?_⟩
          unfold zl at hx
          obtain ⟨j, _, rfl⟩ := List.mem_map.1 hx
          unfold nzl
          rw [List.getD_eq_getElem?_getD, List.getElem?_replicate]
          split <;> rfl
        rw [e]; exact hown2
      obtain ⟨LB, hLB⟩ : ∃ LB, LB = wr.heap.size := ⟨_, rfl⟩
      rw [← hLB] at H2 ⊢
      clear hown2 hgrow2 hLB HB HG
      go_loopw [10, 11] (fun vo va wx => ∃ (k M a lo lc : Nat) (acc : List Nat), vo = .slice (some ⟨lo, 0, none⟩) acc.length lc ∧ va = .int .i64 (a : Nat) ∧ acc.length + k = tot ∧ a < nodes ∧ Hid (rof q nodes all k M a acc = some L ∧ RowB GL all M wx ∧ OwnI LB (.slice (some ⟨lo, 0, none⟩) acc.length lc) (zl acc.length (nzl acc)) wx ∧ Below w.heap.size w wx ∧ LB ≤ wx.heap.size)) (fun vo _ _ => match vo with | .slice _ m _ => tot - m | _ => 0)
      case atStart => exact ⟨all, _, 0, LB, n1, List.replicate n1 0, by rw [List.length_replicate], rfl, by rw [List.length_replicate]; have := HF.out.2.2; omega, by omega, HF.out.1, H2.out.1, H2.out.2.1, H2.out.2.2.1, by have := (H2.out.2.1.lt LB rfl).2; omega⟩
      case round =>
        obtain ⟨k, M, a, lo, lc, acc, rfl, rfl, hk, han, HJ⟩ := hrel
        rename World => wx
        cases k with
        | zero =>
          have hacc : acc = L := by have h := HJ.out.1; cases h; rfl
          have hal2 : acc.length = tot := by omega
          have hown := HJ.out.2.2.1
          have hlz : (zl acc.length (nzl acc)).length = tot := by rw [zl_len]; omega
          have hne : zl acc.length (nzl acc) ≠ [] := fun h => by have := congrArg List.length h; rw [hlz] at this; have : tot = 0 := this; omega
          obtain ⟨g', cap', hv', _, _, hcells, _⟩ := hown.at hne
          rw [zl_len] at hv'
          cases hv'
          have hlc : tot ≤ lc := by
            rcases hown.2 with ⟨h2, _⟩ | ⟨g1, cap1, cur, hv1, _, _, hle, _⟩
            · cases h2
            · rw [hlz] at hv1 hle
              simp only [Value.slice.injEq] at hv1
              omega
          have HE : Hid (SliceI (.slice (some ⟨lo, 0, none⟩) all lc) (zl all (nzl L)) wx ∧ Below w.heap.size w wx) := by
            refine ⟨Or.inr ⟨fun h => by have := congrArg List.length h; rw [zl_len] at this; have : all = 0 := this; omega, by rw [zl_len]; omega, lo, 0, lc, by rw [zl_len], fun j hj => ?_⟩, HJ.out.2.2.2.1⟩
            rw [zl_len] at hj
            rw [zl_getD all _ j hj, Nat.zero_add, hcells j (by rw [hlz]; omega), zl_getD acc.length _ j (by omega), hacc]
          have hib : ¬ (tot : Int) < (tot : Int) := by omega
          have hlcb : (all : Int) ≤ (lc : Int) := by omega
          have hal0 : (0 : Int) ≤ (all : Int) := by omega
          rw [hal2]
          clear hacc hal2 hown hlz hne hcells hlc hk HJ
          go_wp2
          go_ret
          exact ⟨_, rfl, HE.out⟩
        | succ k =>
          obtain ⟨V, hf, hr⟩ := rof_step HJ.out.1
          obtain ⟨l0, hl0⟩ : ∃ l0, l0 = acc.length := ⟨_, rfl⟩
          have hib : (l0 : Int) < (tot : Int) := by omega
          have hl0b : l0 ≤ 310 := by omega
          obtain ⟨aq, haq⟩ : ∃ aq, aq = a * q := ⟨_, rfl⟩
          have haqb : aq ≤ 300 := by
            rw [haq]
            have h1 := Nat.mul_le_mul_right q (Nat.le_of_lt han)
            have h2 := HF.out.2.1
            omega
          have v1 : IntKind.i64.wrap ((a : Int) * (q : Int)) = (aq : Int) := wrap_to (by rw [haq]; simp) (by omega)
          have HP : Hid (fnd q nodes all M a q 0 = some V ∧ rof q nodes all k (M ^^^ 2 ^ (a * q + V)) ((a * q + V) % nodes) (acc ++ [V]) = some L ∧ aq = a * q ∧ l0 = acc.length ∧ l0 + (k + 1) = tot ∧ a < nodes) := ⟨hf, hr, haq, hl0, by omega, han⟩
          rw [← hl0]
          clear hf hr haq hl0 hk
          go_wp2
          go_loopg [12] q (fun gk vv wy => ∃ v : Nat, vv = .int .i64 (v : Nat) ∧ v + gk = q ∧ Hid (fnd q nodes all M a gk v = some V ∧ RowB GL all M wy ∧ OfG GL wx wy))
          case atStart => exact ⟨0, rfl, by omega, HP.out.1, HJ.out.2.1, OfG.refl _ _⟩
          case round =>
            obtain ⟨v, rfl, hvq, HY⟩ := hrel
            rename World => wy
            obtain ⟨r', hr', hcase⟩ := fnd_step HY.out.1
            have hvb : (v : Int) < (q : Int) := by omega
            obtain ⟨e, he⟩ : ∃ e, e = a * q + v := ⟨_, rfl⟩
            have hea : e < all := by
              have h1 : (a + 1) * q ≤ nodes * q := Nat.mul_le_mul_right q HP.out.2.2.2.2.2
              rw [Nat.succ_mul, HF.out.2.1] at h1
              omega
            have v2 : IntKind.i64.wrap ((aq : Int) + (v : Int)) = (e : Int) := wrap_to (by have := HP.out.2.2.1; omega) (by omega)
            have hzb : (e : Int) < (all : Int) := by omega
            have hzb0 : (0 : Int) ≤ (e : Int) := by omega
            have hc0 := RowF.cell HY.out.2.1 e hea
            obtain ⟨bt, hbt⟩ : ∃ bt, bt = M.testBit e := ⟨_, rfl⟩
            have hc : wy.cell? ⟨GL, e, none⟩ = some (.bool bt) := by rw [hbt]; exact hc0
            have HGo : Hid (∀ r : Bool, M.testBit e = true → gok q nodes all M e = some r → Calls Try.prog 86 #[.slice (some ⟨GL, 0, none⟩) all all, .int .i64 (q : Nat), .int .i64 (nodes : Nat), .int .i64 (a : Nat), .int .i64 (v : Nat)] wy fun x w' => x = .returned (.bool r) ∧ RowB GL all M w' ∧ (∀ g, g < wy.heap.size → g ≠ GL → w'.heap[g]? = wy.heap[g]?) ∧ ∀ B u, Below B u wy → B ≤ GL → Below B u w') := fun r h1 h2 => goes_any hq hq2 HF.out.2.1 hal hn1 HY.out.2.1 he hea h1 h2
            rw [← he] at hcase
            have HV : Hid (gk = r' + 1 ∧ e = a * q + v) := ⟨hr', he⟩
            clear hc0 he hr'
            rcases hcase with ⟨hb, hg, hV⟩ | ⟨hb, hg, hfn⟩ | ⟨hb, hfn⟩
            · rw [hb] at hbt
              subst hbt
              have HC : Hid (Calls Try.prog 86 #[.slice (some ⟨GL, 0, none⟩) all all, .int .i64 (q : Nat), .int .i64 (nodes : Nat), .int .i64 (a : Nat), .int .i64 (v : Nat)] wy fun x w' => x = .returned (.bool true) ∧ RowB GL all M w' ∧ (∀ g, g < wy.heap.size → g ≠ GL → w'.heap[g]? = wy.heap[g]?) ∧ ∀ B u, Below B u wy → B ≤ GL → Below B u w') := HGo.out true hb hg
              have HV2 : Hid (V = v ∧ M.testBit e = true) := ⟨hV, hb⟩
              clear hb hg hV HGo
              go_wp2_with fail
              clear hc
              refine HC.out.mono ?_
              rintro x w5 ⟨rfl, hR5, hs5, hb5⟩
              have H5 : Hid (RowB GL all M w5 ∧ OfG GL wx w5) := ⟨hR5, HY.out.2.2.trans ⟨hs5, hb5⟩⟩
              clear hR5 hs5 hb5 HC
              have hc5 := RowF.cell H5.out.1 e hea
              replace hc5 : w5.cell? ⟨GL, e, none⟩ = some (.bool (M.testBit e)) := hc5
              rw [HV2.out.2] at hc5
              have hf5 := RowF.free H5.out.1 e
              obtain ⟨y, hy⟩ : ∃ y, y = e % nodes := ⟨_, rfl⟩
              have d2 : (e : Int).tmod (nodes : Int) = (y : Int) := by rw [hy]; rfl
              have hno0 : ¬ (nodes : Int) = 0 := by omega
              have hyn : y < nodes := by rw [hy]; exact Nat.mod_lt _ (by omega)
              have HM : Hid (RowB GL all (M ^^^ 2 ^ e) (w5.setCell ⟨GL, e, none⟩ (.bool false)) ∧ OwnI LB (.slice (some ⟨lo, 0, none⟩) l0 lc) (zl acc.length (nzl acc)) (w5.setCell ⟨GL, e, none⟩ (.bool false)) ∧ Below w.heap.size w (w5.setCell ⟨GL, e, none⟩ (.bool false)) ∧ LB ≤ w5.heap.size ∧ y = e % nodes) := by
                have h2 := H2.out.2.2.2
                have h3 := H1.out.2.2
                have hs := H5.out.2.size
                have hown := HJ.out.2.2.1
                have hoL := hown.lt lo rfl
                refine ⟨H5.out.1.off HV2.out.2, ?_, setO_bel (H5.out.2.bel _ _ HJ.out.2.2.2.1 (by omega)) (by omega) _, by have := HJ.out.2.2.2.2; omega, hy⟩
                rw [HP.out.2.2.2.1]
                refine hown.same (fun k hk => ?_)
                have h4 : lo = k := Option.some.inj hk
                rw [Below.heap_setCell _ _ _ _ (by show k ≠ GL; omega)]
                exact H5.out.2.same k (by omega) (by omega)
              have hsm := HM.out.2.2.2.1
              clear hy
              go_wp2_with (first
                | (at_builtin; refine append_int rfl _ _ rfl LB (.slice (some ⟨lo, 0, none⟩) l0 lc) (zl acc.length (nzl acc)) rfl (HM.out.2.1.alloc _) ⟨w5.heap.size, 0, none⟩ 1 (v : Int) rfl (by rw [show w5.heap.size = (w5.setCell ⟨GL, e, none⟩ (.bool false)).heap.size by simp [World.setCell], cell_of_row _ _ _ _ _ (0, 0) (two_new _)]; rfl) (by rw [zl_len, ← HP.out.2.2.2.1]; omega) (by simp [World.setCell]; omega) ?_; intro v9 w9 hown9 hg9)
                | fail)
              have HX : Hid (∃ lo2 lc2, v9 = .slice (some ⟨lo2, 0, none⟩) (acc ++ [v]).length lc2 ∧ OwnI LB (.slice (some ⟨lo2, 0, none⟩) (acc ++ [v]).length lc2) (zl (acc ++ [v]).length (nzl (acc ++ [v]))) w9 ∧ RowB GL all (M ^^^ 2 ^ e) w9 ∧ Below w.heap.size w w9 ∧ LB ≤ w9.heap.size) := by
                have e1 : zl acc.length (nzl acc) ++ [(v : Int)] = zl (acc ++ [v]).length (nzl (acc ++ [v])) := by rw [nzl_app]; rfl
                rw [e1] at hown9
                obtain ⟨g9, c9, hv9, _⟩ := hown9.at (by rw [← e1]; intro h; have := congrArg List.length h; rw [List.length_append] at this; cases this)
                rw [zl_len] at hv9
                have h2 := H2.out.2.2.2
                have h3 := H1.out.2.2
                have hoL := (HM.out.2.1.lt lo rfl).1
                have hb9 := HM.out.2.2.1.alloc (by have := HM.out.2.2.1.size; omega) (.cells #[.int .i64 (v : Nat)] 3)
                have hb10 := hb9.grown hg9 hb9.size (fun k hk => by have h4 : lo = k := Option.some.inj hk; omega)
                refine ⟨g9, c9, hv9, by rw [← hv9]; exact hown9, RowF.grown (RowF.alloc HM.out.1 _) hg9 (fun h => by have h4 : GL = lo := Option.some.inj h; omega), hb10, ?_⟩
                have := hown9.lt g9 (by rw [hv9]; rfl)
                omega
              clear hown9 hg9
              obtain ⟨lo2, lc2, hv9, HX2⟩ := HX.out
              subst hv9
              clear hc5 hf5
              go_wp2
              go_roundw
              case rel =>
                refine ⟨k, M ^^^ 2 ^ e, y, lo2, lc2, acc ++ [v], rfl, by first | rfl | go_num, ?_, hyn, ?_, HX2.2.1, HX2.1, HX2.2.2⟩
                · rw [List.length_append]; have := HP.out.2.2.2; show acc.length + 1 + k = tot; omega
                · have h := HP.out.2.1
                  rw [HV2.out.1, ← HV.out.2, ← HM.out.2.2.2.2] at h
                  exact h
              case measure =>
                show tot - (acc ++ [v]).length < tot - l0
                rw [List.length_append]
                have h1 := HP.out.2.2.2.1
                have h2 := HP.out.2.2.2.2.1
                show tot - (acc.length + 1) < tot - l0
                omega
            · rw [hb] at hbt
              subst hbt
              have HC : Hid (Calls Try.prog 86 #[.slice (some ⟨GL, 0, none⟩) all all, .int .i64 (q : Nat), .int .i64 (nodes : Nat), .int .i64 (a : Nat), .int .i64 (v : Nat)] wy fun x w' => x = .returned (.bool false) ∧ RowB GL all M w' ∧ (∀ g, g < wy.heap.size → g ≠ GL → w'.heap[g]? = wy.heap[g]?) ∧ ∀ B u, Below B u wy → B ≤ GL → Below B u w') := HGo.out false hb hg
              have HV3 : Hid (fnd q nodes all M a r' (v + 1) = some V) := hfn
              clear hb hg hfn HGo
              go_wp2_with fail
              clear hc
              refine HC.out.mono ?_
              rintro x w5 ⟨rfl, hR5, hs5, hb5⟩
              have H5 : Hid (RowB GL all M w5 ∧ OfG GL wx w5) := ⟨hR5, HY.out.2.2.trans ⟨hs5, hb5⟩⟩
              clear hR5 hs5 hb5 HC
              go_wp2
              go_roundg r'
              case measure => have := HV.out.1; omega
              case rel => exact ⟨v + 1, by go_num, by have := HV.out.1; omega, HV3.out, H5.out⟩
            · rw [hb] at hbt
              subst hbt
              have HV3 : Hid (fnd q nodes all M a r' (v + 1) = some V) := hfn
              clear hb hfn HGo
              go_wp2
              go_roundg r'
              case measure => have := HV.out.1; omega
              case rel => exact ⟨v + 1, by go_num, by have := HV.out.1; omega, HV3.out, HY.out.2⟩
end Go.Proofs.Ythkjaiihlphgfaa
