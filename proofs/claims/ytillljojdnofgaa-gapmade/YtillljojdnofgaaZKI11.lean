/- Words that may lose a bit: all words that come of one by losing a bit (gap.shorter; printed by make/ki11.py). -/
import Derived.Test.YtillljojdnofgaaZKI10
import Derived.Test.YtillljojdnofgaaZI32
namespace Go.Proofs.Ytillljojdnofgaa
open Go.RowKit Go.Sort

/-- The words that come of one by losing a number: of those alike in a row the first, of the first k. -/
def srL (f : Nat → Nat) : Nat → List (Nat → Nat)
  | 0 => []
  | k + 1 => srL f k ++ if k = 0 ∨ f (k - 1) ≠ f k then [wo k f] else []
theorem srL_len (f : Nat → Nat) : ∀ k, (srL f k).length ≤ k
  | 0 => Nat.le_refl _
  | k + 1 => by
    have := srL_len f k
    show (srL f k ++ if k = 0 ∨ f (k - 1) ≠ f k then [wo k f] else []).length ≤ k + 1
    rw [List.length_append]
    split
    · show _ + 1 ≤ _; omega
    · show _ + 0 ≤ _; omega
/-- What of the word, when the first of a row is lost, is the same as when another of it is. -/
theorem srL_mem {f c : Nat → Nat} : ∀ k, c ∈ srL f k ↔ ∃ i, i < k ∧ c = wo i f
  | 0 => ⟨fun h => (by cases h), fun ⟨i, h, _⟩ => absurd h (by omega)⟩
  | k + 1 => by
    show c ∈ srL f k ++ (if k = 0 ∨ f (k - 1) ≠ f k then [wo k f] else []) ↔ _
    rw [List.mem_append, srL_mem k]
    by_cases h0 : k = 0 ∨ f (k - 1) ≠ f k
    · rw [if_pos h0, List.mem_singleton]
      constructor
      · rintro (⟨i, hi, e⟩ | e)
        · exact ⟨i, by omega, e⟩
        · exact ⟨k, by omega, e⟩
      · rintro ⟨i, hi, e⟩
        by_cases h : i = k
        · exact Or.inr (by rw [e, h])
        · exact Or.inl ⟨i, by omega, e⟩
    · rw [if_neg h0]
      have hk : k ≠ 0 ∧ f (k - 1) = f k := ⟨fun e => h0 (Or.inl e), Classical.byContradiction fun e => h0 (Or.inr e)⟩
      have hs : wo (k - 1) f = wo k f := wo_same (by omega) fun t h1 h2 => by
        by_cases e : t = k - 1
        · rw [e]
        · rw [show t = k by omega, hk.2]
      constructor
      · rintro (⟨i, hi, e⟩ | e)
        · exact ⟨i, by omega, e⟩
        · cases e
      · rintro ⟨i, hi, e⟩
        by_cases h : i = k
        · exact Or.inl ⟨k - 1, by omega, by rw [e, h, hs]⟩
        · exact Or.inl ⟨i, by omega, e⟩

set_option maxHeartbeats 16000000 in
set_option maxRecDepth 100000 in
theorem shorter_any {ao : Option Addr} {n ca : Nat} {f : Nat → Nat} {w : World} (hA : ArgL ao n ca (fun j => ((f j : Nat) : Int)) w) (hn : n ≤ 13) :
    Calls Try.prog 56 #[.slice ao n ca] w fun e w' => ∃ v, e = .returned v ∧ WLs w.heap.size v (n - 1) (srL f n) w' ∧ Below w.heap.size w w' := by
  have HA : Hid (ArgL ao n ca (fun j => ((f j : Nat) : Int)) w) := hA
  have hnc : n ≤ ca := hA.le
  have hca2 : ca ≤ 9223372036854775807 := hA.cap
  clear hA
  go_enter Try.func56, Try.ntmps56
  go_wp2
  go_loopw [3, 8] (fun vo vk wr => ∃ k : Nat, k ≤ n ∧ vk = .int .i64 (k : Nat) ∧ Hid (WLs w.heap.size vo (n - 1) (srL f k) wr ∧ Below w.heap.size w wr)) (fun _ vk _ => n - (intOf vk).toNat)
  case atStart => exact ⟨0, by omega, rfl, WLs.nil _ _ _, Below.refl _ _⟩
  case round =>
    obtain ⟨k, hk, rfl, HG⟩ := hrel
    rename World => wr
    by_cases hlt : k < n
    · have hib : (k : Int) < (n : Int) := by omega
      have hib0 : (0 : Int) ≤ (k : Int) := by omega
      obtain ⟨m, hm⟩ : ∃ m, m = n - 1 := ⟨_, rfl⟩
      have HM : Hid (m = n - 1) := hm
      have hS0 := slz_below HA.out.sl HG.out.2
      obtain ⟨bx, ox, hao, hck⟩ := hS0 k hlt
      have hlx0 : LtB ao wr.heap.size := HA.out.lt.mono HG.out.2.size
      subst hao
      have HX : Hid (SlZ (some ⟨bx, ox, none⟩) n (fun j => ((f j : Nat) : Int)) wr ∧ LtB (some ⟨bx, ox, none⟩) wr.heap.size) := ⟨hS0, hlx0⟩
      obtain ⟨x, hx⟩ : ∃ x, x = f k := ⟨_, rfl⟩
      replace hck : wr.cell? ⟨bx, ox + k, none⟩ = some (.int .i64 (x : Nat)) := by rw [hx]; exact hck
      obtain ⟨lst, hov, hln, hels⟩ := HG.out.1
      have hll : lst.length + 1 ≤ 1000000 := by rw [hln]; have := srL_len f k; omega
      have HL : Hid (OwnV w.heap.size u3 lst wr ∧ lst.length = (srL f k).length ∧ (∀ (j : Nat) (u : Value) (c : Nat → Nat), lst[j]? = some u → (srL f k)[j]? = some c → OwnI w.heap.size u (wz (n - 1) c) wr)) := ⟨hov, hln, hels⟩
      have h1 : (k : Int) ≤ (ca : Int) := by omega
      have h2 : (0 : Int) ≤ (k : Int) + 1 := by omega
      have h3 : (k : Int) + 1 ≤ (n : Int) := by omega
      have h4 : (n : Int) ≤ (ca : Int) := by omega
      have hwr : IntKind.i64.wrap ((k : Int) + 1) = (k : Int) + 1 := by rw [IntKind.wrap_i64]; omega
      have htn : ((k : Int) + 1).toNat = k + 1 := by omega
      have hszr := HG.out.2.size
      clear hS0 hlx0 hov hln hels hm
      by_cases hk0 : k = 0
      · have zk : ((k : Int) == 0) = true := by rw [hk0]; rfl
        have HNx : Hid (srL f (k + 1) = srL f k ++ [wo k f]) := by show srL f k ++ _ = _; rw [if_pos (Or.inl hk0)]
        clear hk0 hx
        by_cases hca : ca = k + 1
        · have HNA : Hid (n = k + 1) := by show n = k + 1; omega
          subst hca
          have h1' : (k : Int) ≤ (k : Int) + 1 := by omega
          have h4' : (n : Int) ≤ (k : Int) + 1 := by omega
          go_wp2
          refine wp_region_noPanic ?_
          refine wp_region_X (S := fun _ => True) 12 (by kernel_rfl) ?_
          refine wpAnyX_take (i := 0) (v := ?_) (by rw [List.getElem?_toArray]; rfl) (by kernel_rfl) (by kernel_rfl) (by kernel_rfl) (by kernel_rfl) (fun _ _ _ h => h) True.intro (Or.inl ⟨by rfl, ?_⟩) ?_
          rotate_left
          · intro wz hSz; go_simp; first | done | with_reducible rfl | (simp only [hwr, htn, h2, h3, Nat.sub_self, if_true, if_false, and_self]; first | done | with_reducible rfl)
          try simp only [Act.put, List.setIfInBounds_toArray, List.set_cons_zero, List.set_cons_succ]
          refine wpAnyX_take (i := 1) (v := ?_) (by rw [List.getElem?_toArray]; rfl) (by kernel_rfl) (by kernel_rfl) (by kernel_rfl) (by kernel_rfl) (fun _ _ _ h => h) True.intro (Or.inl ⟨by rfl, ?_⟩) ?_
          rotate_left
          · intro wz hSz; go_simp; first | done | with_reducible rfl | (simp only [hwr, htn, h2, h3, Nat.sub_self, if_true, if_false, and_self]; first | done | with_reducible rfl)
          try simp only [Act.put, List.setIfInBounds_toArray, List.set_cons_zero, List.set_cons_succ]
          refine wpAnyX_take (i := 2) (v := ?_) (by rw [List.getElem?_toArray]; rfl) (by kernel_rfl) (by kernel_rfl) (by kernel_rfl) (by kernel_rfl) (fun _ _ _ h => h) True.intro (Or.inl ⟨by rfl, ?_⟩) ?_
          rotate_left
          · intro wz hSz; go_simp; first | done | with_reducible rfl | (simp only [hwr, htn, h2, h3, Nat.sub_self, if_true, if_false, and_self]; first | done | with_reducible rfl)
          try simp only [Act.put, List.setIfInBounds_toArray, List.set_cons_zero, List.set_cons_succ]
          refine wpAnyX_take (i := 3) (v := ?_) (by rw [List.getElem?_toArray]; rfl) (by kernel_rfl) (by kernel_rfl) (by kernel_rfl) (by kernel_rfl) (fun _ _ _ h => h) True.intro (Or.inl ⟨by rfl, ?_⟩) ?_
          rotate_left
          · intro wz hSz; go_simp; first | done | with_reducible rfl | (simp only [hwr, htn, h2, h3, Nat.sub_self, if_true, if_false, and_self]; first | done | with_reducible rfl)
          try simp only [Act.put, List.setIfInBounds_toArray, List.set_cons_zero, List.set_cons_succ]
          refine wpAnyX_take (i := 4) (v := ?_) (by rw [List.getElem?_toArray]; rfl) (by kernel_rfl) (by kernel_rfl) (by kernel_rfl) (by kernel_rfl) (fun _ _ _ h => h) True.intro (Or.inl ⟨by rfl, ?_⟩) ?_
          rotate_left
          · intro wz hSz; go_simp; first | done | with_reducible rfl | (simp only [hwr, htn, h2, h3, Nat.sub_self, if_true, if_false, and_self]; first | done | with_reducible rfl)
          try simp only [Act.put, List.setIfInBounds_toArray, List.set_cons_zero, List.set_cons_succ]
          refine wpAnyX_take (i := 5) (v := ?_) (by rw [List.getElem?_toArray]; rfl) (by kernel_rfl) (by kernel_rfl) (by kernel_rfl) (by kernel_rfl) (fun _ _ _ h => h) True.intro (Or.inl ⟨by rfl, ?_⟩) ?_
          rotate_left
          · intro wz hSz; go_simp; first | done | with_reducible rfl | (simp only [hwr, htn, h2, h3, Nat.sub_self, if_true, if_false, and_self]; first | done | with_reducible rfl)
          try simp only [Act.put, List.setIfInBounds_toArray, List.set_cons_zero, List.set_cons_succ]
          refine wpAnyX_take (i := 6) (v := ?_) (by rw [List.getElem?_toArray]; rfl) (by kernel_rfl) (by kernel_rfl) (by kernel_rfl) (by kernel_rfl) (fun _ _ _ h => h) True.intro (Or.inl ⟨by rfl, ?_⟩) ?_
          rotate_left
          · intro wz hSz; go_simp; first | done | with_reducible rfl | (simp only [hwr, htn, h2, h3, Nat.sub_self, if_true, if_false, and_self]; first | done | with_reducible rfl)
          try simp only [Act.put, List.setIfInBounds_toArray, List.set_cons_zero, List.set_cons_succ]
          refine wpAnyX_take (i := 7) (v := ?_) (by rw [List.getElem?_toArray]; rfl) (by kernel_rfl) (by kernel_rfl) (by kernel_rfl) (by kernel_rfl) (fun _ _ _ h => h) True.intro (Or.inl ⟨by rfl, ?_⟩) ?_
          rotate_left
          · intro wz hSz; go_simp; first | done | with_reducible rfl | (simp only [hwr, htn, h2, h3, Nat.sub_self, if_true, if_false, and_self]; first | done | with_reducible rfl)
          try simp only [Act.put, List.setIfInBounds_toArray, List.set_cons_zero, List.set_cons_succ]
          refine wpAnyX_one (i := 8) (by kernel_rfl) (by rw [List.getElem?_toArray]; rfl) (fun K hK => ?_)
          have HK : Hid _ := hK
          clear hK
          go_simp
          obtain ⟨we, hwe⟩ : ∃ we, we = (wr.alloc (.cells #[.slice (some ⟨bx, ox, none⟩) k (k + 1), .slice (some ⟨bx, ox, none⟩) 0 0] 22)).drew := ⟨_, rfl⟩
          have HE : Hid (Below wr.heap.size wr we ∧ TwoL wr.heap.size k (n - (k + 1)) (fun j => ((f j : Nat) : Int)) (fun j => ((f (k + 1 + j) : Nat) : Int)) we) := by
            have hb : Below wr.heap.size wr we := by rw [hwe]; exact ((Below.refl _ _).alloc (Nat.le_refl _) _).drew
            refine ⟨hb, ⟨fun r hr => ?_⟩⟩
            have hlx := HX.out.2
            have hS := HX.out.1.below hb hlx
            have hly : bx < we.heap.size := Nat.lt_of_lt_of_le (hlx _ rfl) hb.size
            rcases Nat.lt_or_ge r 1 with h | h
            · have e : r = 0 := by omega
              subst e
              exact ⟨_, k, k + 1, fun j => ((f j : Nat) : Int), by rw [hwe]; simp, fun j hj => hS j (by omega), (fun y hy => by cases hy; exact hly), (fun e => by cases e), by show 0 + k = k; omega, List.nil_append _⟩
            · have e : r = 1 := by omega
              subst e
              refine ⟨(some ⟨bx, ox, none⟩), 0, 0, fun j => ((f (k + 1 + j) : Nat) : Int), by rw [hwe]; simp, ?_, (fun y hy => by cases hy; exact hly), (fun e => by cases e), by have := HNA.out; show k + 0 = k + (n - (k + 1)); omega, by show zl k _ ++ zl 0 _ = zl k _ ++ zl (n - (k + 1)) _; rw [show n - (k + 1) = 0 by have := HNA.out; omega]⟩
              exact fun j hj => absurd hj (by omega)
          rw [← hwe]
          refine HK.out _ _ (fun _ => True.intro) ?_
          clear HK K hwe
          try simp only [Act.put, List.setIfInBounds_toArray, List.set_cons_zero, List.set_cons_succ]
          refine wpAnyX_one (i := 9) (by kernel_rfl) (by rw [List.getElem?_toArray]; rfl) (fun K hK => ?_)
          have HK : Hid _ := hK
          clear hK
          go_simp
          refine (concat2 HE.out.2 (by omega)).mono ?_
          rintro e w5 ⟨v5, rfl, ho5, hb5⟩
          rw [zl_wo k n _ (by omega), ← HM.out] at ho5
          obtain ⟨vo, vc, hv5, _⟩ := OwnI.argL (n := m) (y := fun j => ((wo k f j : Nat) : Int)) ho5
          subst hv5
          have hb5r : Below wr.heap.size wr w5 := bel_up' HE.out.1 hb5
          have H5 : Hid (OwnV w.heap.size u3 lst w5 ∧ lst.length = (srL f k).length ∧ (∀ (j : Nat) (u : Value) (c : Nat → Nat), lst[j]? = some u → (srL f k)[j]? = some c → OwnI w.heap.size u (wz (n - 1) c) w5) ∧ OwnI w.heap.size (.slice vo m vc) (wz (n - 1) (wo k f)) w5 ∧ Below w.heap.size w w5) := ⟨HL.out.1.below hb5r (Nat.le_refl _), HL.out.2.1, fun j u c hu hc => (HL.out.2.2 j u c hu hc).below hb5r fun q hq => ((HL.out.2.2 j u c hu hc).lt q hq).2, by rw [← HM.out]; exact ho5.mono (Nat.le_trans hszr HE.out.1.size), bel_up' HG.out.2 hb5r⟩
          clear ho5 hb5 hb5r
          refine HK.out _ _ (fun _ => True.intro) ?_
          clear HK K
          try simp only [Act.put, List.setIfInBounds_toArray, List.set_cons_zero, List.set_cons_succ]
          refine wpAnyX_one (i := 10) (by kernel_rfl) (by rw [List.getElem?_toArray]; rfl) (fun K hK => ?_)
          have HK : Hid _ := hK
          clear hK
          go_simp
          obtain ⟨wf, hwf⟩ : ∃ wf, wf = w5.alloc (.cells #[.slice vo m vc] 22) := ⟨_, rfl⟩
          have hal : Below w5.heap.size w5 wf := by rw [hwf]; exact (Below.refl _ _).alloc (Nat.le_refl _) _
          have HF5 : Hid (OwnV w.heap.size u3 lst wf ∧ lst.length = (srL f k).length ∧ (∀ (j : Nat) (u : Value) (c : Nat → Nat), lst[j]? = some u → (srL f k)[j]? = some c → OwnI w.heap.size u (wz (n - 1) c) wf) ∧ OwnI w.heap.size (.slice vo m vc) (wz (n - 1) (wo k f)) wf ∧ Below w.heap.size w wf ∧ SlV (some ⟨w5.heap.size, 0, none⟩) 1 (fun _ => .slice vo m vc) wf) := ⟨H5.out.1.below hal (Nat.le_refl _), H5.out.2.1, fun j u c hu hc => (H5.out.2.2.1 j u c hu hc).below hal fun q hq => ((H5.out.2.2.1 j u c hu hc).lt q hq).2, H5.out.2.2.2.1.below hal fun q hq => (H5.out.2.2.2.1.lt q hq).2, bel_up' H5.out.2.2.2.2 hal, fun j hj => ⟨_, 0, rfl, by rw [hwf, show 0 + j = 0 by omega, cell_of_row _ _ _ _ _ (0, 0) (two_new _)]; rfl⟩⟩
          rw [← hwf]
          clear hwf hal
          refine HK.out _ _ (fun _ => True.intro) ?_
          clear HK K
          try simp only [Act.put, List.setIfInBounds_toArray, List.set_cons_zero, List.set_cons_succ]
          refine wpAnyX_one (i := 11) (by kernel_rfl) (by rw [List.getElem?_toArray]; rfl) (fun K hK => ?_)
          have HK : Hid _ := hK
          clear hK
          refine step_append_sls (by rfl) _ _ (by rfl) w.heap.size u3 lst (by rfl) HF5.out.1 (some ⟨w5.heap.size, 0, none⟩) 1 1 (fun _ => .slice vo m vc) (by rfl) HF5.out.2.2.2.2.2 (fun _ _ => rfl) (fun e => by cases e) hll HF5.out.2.2.2.2.1.size w HF5.out.2.2.2.2.1 (Nat.le_refl _) ?_
          intro v' w6 hown6 hg6 hb6
          have H6 : Hid (WLs w.heap.size v' (n - 1) (srL f (k + 1)) w6 ∧ Below w.heap.size w w6) := by
            refine ⟨?_, hb6⟩
            rw [HNx.out]
            have hp := wl_push HF5.out.1 HF5.out.2.1 HF5.out.2.2.1 HF5.out.2.2.2.1 hg6
            exact ⟨_, hown6, hp.1, hp.2⟩
          clear hown6 hg6 hb6
          refine HK.out _ _ (fun _ => True.intro) ?_
          clear HK K
          try simp only [Act.put, List.setIfInBounds_toArray, List.set_cons_zero, List.set_cons_succ]
          refine wpAnyX_one (i := 12) (by kernel_rfl) (by rw [List.getElem?_toArray]; rfl) (fun K hK => ?_)
          have HK : Hid _ := hK
          clear hK
          go_simp
          refine HK.out _ _ (fun h => absurd rfl h) ?_
          clear HK K
          try simp only [Act.put, List.setIfInBounds_toArray, List.set_cons_zero, List.set_cons_succ]
          refine wpAnyX_done (by kernel_rfl) (NoPanic.normal ?_)
          go_wp2
          go_roundw
          case rel => exact ⟨k + 1, by omega, by go_num, H6.out⟩
          case measure => simp [intOf]; omega
        · skip
          go_wp2
          refine wp_region_noPanic ?_
          refine wp_region_X (S := fun _ => True) 12 (by kernel_rfl) ?_
          refine wpAnyX_take (i := 0) (v := ?_) (by rw [List.getElem?_toArray]; rfl) (by kernel_rfl) (by kernel_rfl) (by kernel_rfl) (by kernel_rfl) (fun _ _ _ h => h) True.intro (Or.inl ⟨by rfl, ?_⟩) ?_
          rotate_left
          · intro wz hSz; go_simp; first | done | with_reducible rfl | (simp only [hwr, htn, h2, h3, hca, if_true, if_false, and_self]; first | done | with_reducible rfl)
          try simp only [Act.put, List.setIfInBounds_toArray, List.set_cons_zero, List.set_cons_succ]
          refine wpAnyX_take (i := 1) (v := ?_) (by rw [List.getElem?_toArray]; rfl) (by kernel_rfl) (by kernel_rfl) (by kernel_rfl) (by kernel_rfl) (fun _ _ _ h => h) True.intro (Or.inl ⟨by rfl, ?_⟩) ?_
          rotate_left
          · intro wz hSz; go_simp; first | done | with_reducible rfl | (simp only [hwr, htn, h2, h3, hca, if_true, if_false, and_self]; first | done | with_reducible rfl)
          try simp only [Act.put, List.setIfInBounds_toArray, List.set_cons_zero, List.set_cons_succ]
          refine wpAnyX_take (i := 2) (v := ?_) (by rw [List.getElem?_toArray]; rfl) (by kernel_rfl) (by kernel_rfl) (by kernel_rfl) (by kernel_rfl) (fun _ _ _ h => h) True.intro (Or.inl ⟨by rfl, ?_⟩) ?_
          rotate_left
          · intro wz hSz; go_simp; first | done | with_reducible rfl | (simp only [hwr, htn, h2, h3, hca, if_true, if_false, and_self]; first | done | with_reducible rfl)
          try simp only [Act.put, List.setIfInBounds_toArray, List.set_cons_zero, List.set_cons_succ]
          refine wpAnyX_take (i := 3) (v := ?_) (by rw [List.getElem?_toArray]; rfl) (by kernel_rfl) (by kernel_rfl) (by kernel_rfl) (by kernel_rfl) (fun _ _ _ h => h) True.intro (Or.inl ⟨by rfl, ?_⟩) ?_
          rotate_left
          · intro wz hSz; go_simp; first | done | with_reducible rfl | (simp only [hwr, htn, h2, h3, hca, if_true, if_false, and_self]; first | done | with_reducible rfl)
          try simp only [Act.put, List.setIfInBounds_toArray, List.set_cons_zero, List.set_cons_succ]
          refine wpAnyX_take (i := 4) (v := ?_) (by rw [List.getElem?_toArray]; rfl) (by kernel_rfl) (by kernel_rfl) (by kernel_rfl) (by kernel_rfl) (fun _ _ _ h => h) True.intro (Or.inl ⟨by rfl, ?_⟩) ?_
          rotate_left
          · intro wz hSz; go_simp; first | done | with_reducible rfl | (simp only [hwr, htn, h2, h3, hca, if_true, if_false, and_self]; first | done | with_reducible rfl)
          try simp only [Act.put, List.setIfInBounds_toArray, List.set_cons_zero, List.set_cons_succ]
          refine wpAnyX_take (i := 5) (v := ?_) (by rw [List.getElem?_toArray]; rfl) (by kernel_rfl) (by kernel_rfl) (by kernel_rfl) (by kernel_rfl) (fun _ _ _ h => h) True.intro (Or.inl ⟨by rfl, ?_⟩) ?_
          rotate_left
          · intro wz hSz; go_simp; first | done | with_reducible rfl | (simp only [hwr, htn, h2, h3, hca, if_true, if_false, and_self]; first | done | with_reducible rfl)
          try simp only [Act.put, List.setIfInBounds_toArray, List.set_cons_zero, List.set_cons_succ]
          refine wpAnyX_take (i := 6) (v := ?_) (by rw [List.getElem?_toArray]; rfl) (by kernel_rfl) (by kernel_rfl) (by kernel_rfl) (by kernel_rfl) (fun _ _ _ h => h) True.intro (Or.inl ⟨by rfl, ?_⟩) ?_
          rotate_left
          · intro wz hSz; go_simp; first | done | with_reducible rfl | (simp only [hwr, htn, h2, h3, hca, if_true, if_false, and_self]; first | done | with_reducible rfl)
          try simp only [Act.put, List.setIfInBounds_toArray, List.set_cons_zero, List.set_cons_succ]
          refine wpAnyX_take (i := 7) (v := ?_) (by rw [List.getElem?_toArray]; rfl) (by kernel_rfl) (by kernel_rfl) (by kernel_rfl) (by kernel_rfl) (fun _ _ _ h => h) True.intro (Or.inl ⟨by rfl, ?_⟩) ?_
          rotate_left
          · intro wz hSz; go_simp; first | done | with_reducible rfl | (simp only [hwr, htn, h2, h3, hca, if_true, if_false, and_self]; first | done | with_reducible rfl)
          try simp only [Act.put, List.setIfInBounds_toArray, List.set_cons_zero, List.set_cons_succ]
          refine wpAnyX_one (i := 8) (by kernel_rfl) (by rw [List.getElem?_toArray]; rfl) (fun K hK => ?_)
          have HK : Hid _ := hK
          clear hK
          go_simp
          obtain ⟨we, hwe⟩ : ∃ we, we = (wr.alloc (.cells #[.slice (some ⟨bx, ox, none⟩) k (ca), .slice (some ⟨bx, ox + (k + 1), none⟩) (n - (k + 1)) (ca - (k + 1))] 22)).drew := ⟨_, rfl⟩
          have HE : Hid (Below wr.heap.size wr we ∧ TwoL wr.heap.size k (n - (k + 1)) (fun j => ((f j : Nat) : Int)) (fun j => ((f (k + 1 + j) : Nat) : Int)) we) := by
            have hb : Below wr.heap.size wr we := by rw [hwe]; exact ((Below.refl _ _).alloc (Nat.le_refl _) _).drew
            refine ⟨hb, ⟨fun r hr => ?_⟩⟩
            have hlx := HX.out.2
            have hS := HX.out.1.below hb hlx
            have hly : bx < we.heap.size := Nat.lt_of_lt_of_le (hlx _ rfl) hb.size
            rcases Nat.lt_or_ge r 1 with h | h
            · have e : r = 0 := by omega
              subst e
              exact ⟨_, k, ca, fun j => ((f j : Nat) : Int), by rw [hwe]; simp, fun j hj => hS j (by omega), (fun y hy => by cases hy; exact hly), (fun e => by cases e), by show 0 + k = k; omega, List.nil_append _⟩
            · have e : r = 1 := by omega
              subst e
              refine ⟨(some ⟨bx, ox + (k + 1), none⟩), (n - (k + 1)), (ca - (k + 1)), fun j => ((f (k + 1 + j) : Nat) : Int), by rw [hwe]; simp, ?_, (fun y hy => by cases hy; exact hly), (fun e => by cases e), by show k + (n - (k + 1)) = k + (n - (k + 1)); rfl, rfl⟩
              intro j hj
              obtain ⟨b1, o1, e1, hc1⟩ := hS (k + 1 + j) (by omega)
              cases e1
              exact ⟨bx, ox + (k + 1), rfl, by rw [show ox + (k + 1) + j = ox + (k + 1 + j) by omega]; exact hc1⟩
          rw [← hwe]
          refine HK.out _ _ (fun _ => True.intro) ?_
          clear HK K hwe
          try simp only [Act.put, List.setIfInBounds_toArray, List.set_cons_zero, List.set_cons_succ]
          refine wpAnyX_one (i := 9) (by kernel_rfl) (by rw [List.getElem?_toArray]; rfl) (fun K hK => ?_)
          have HK : Hid _ := hK
          clear hK
          go_simp
          refine (concat2 HE.out.2 (by omega)).mono ?_
          rintro e w5 ⟨v5, rfl, ho5, hb5⟩
          rw [zl_wo k n _ (by omega), ← HM.out] at ho5
          obtain ⟨vo, vc, hv5, _⟩ := OwnI.argL (n := m) (y := fun j => ((wo k f j : Nat) : Int)) ho5
          subst hv5
          have hb5r : Below wr.heap.size wr w5 := bel_up' HE.out.1 hb5
          have H5 : Hid (OwnV w.heap.size u3 lst w5 ∧ lst.length = (srL f k).length ∧ (∀ (j : Nat) (u : Value) (c : Nat → Nat), lst[j]? = some u → (srL f k)[j]? = some c → OwnI w.heap.size u (wz (n - 1) c) w5) ∧ OwnI w.heap.size (.slice vo m vc) (wz (n - 1) (wo k f)) w5 ∧ Below w.heap.size w w5) := ⟨HL.out.1.below hb5r (Nat.le_refl _), HL.out.2.1, fun j u c hu hc => (HL.out.2.2 j u c hu hc).below hb5r fun q hq => ((HL.out.2.2 j u c hu hc).lt q hq).2, by rw [← HM.out]; exact ho5.mono (Nat.le_trans hszr HE.out.1.size), bel_up' HG.out.2 hb5r⟩
          clear ho5 hb5 hb5r
          refine HK.out _ _ (fun _ => True.intro) ?_
          clear HK K
          try simp only [Act.put, List.setIfInBounds_toArray, List.set_cons_zero, List.set_cons_succ]
          refine wpAnyX_one (i := 10) (by kernel_rfl) (by rw [List.getElem?_toArray]; rfl) (fun K hK => ?_)
          have HK : Hid _ := hK
          clear hK
          go_simp
          obtain ⟨wf, hwf⟩ : ∃ wf, wf = w5.alloc (.cells #[.slice vo m vc] 22) := ⟨_, rfl⟩
          have hal : Below w5.heap.size w5 wf := by rw [hwf]; exact (Below.refl _ _).alloc (Nat.le_refl _) _
          have HF5 : Hid (OwnV w.heap.size u3 lst wf ∧ lst.length = (srL f k).length ∧ (∀ (j : Nat) (u : Value) (c : Nat → Nat), lst[j]? = some u → (srL f k)[j]? = some c → OwnI w.heap.size u (wz (n - 1) c) wf) ∧ OwnI w.heap.size (.slice vo m vc) (wz (n - 1) (wo k f)) wf ∧ Below w.heap.size w wf ∧ SlV (some ⟨w5.heap.size, 0, none⟩) 1 (fun _ => .slice vo m vc) wf) := ⟨H5.out.1.below hal (Nat.le_refl _), H5.out.2.1, fun j u c hu hc => (H5.out.2.2.1 j u c hu hc).below hal fun q hq => ((H5.out.2.2.1 j u c hu hc).lt q hq).2, H5.out.2.2.2.1.below hal fun q hq => (H5.out.2.2.2.1.lt q hq).2, bel_up' H5.out.2.2.2.2 hal, fun j hj => ⟨_, 0, rfl, by rw [hwf, show 0 + j = 0 by omega, cell_of_row _ _ _ _ _ (0, 0) (two_new _)]; rfl⟩⟩
          rw [← hwf]
          clear hwf hal
          refine HK.out _ _ (fun _ => True.intro) ?_
          clear HK K
          try simp only [Act.put, List.setIfInBounds_toArray, List.set_cons_zero, List.set_cons_succ]
          refine wpAnyX_one (i := 11) (by kernel_rfl) (by rw [List.getElem?_toArray]; rfl) (fun K hK => ?_)
          have HK : Hid _ := hK
          clear hK
          refine step_append_sls (by rfl) _ _ (by rfl) w.heap.size u3 lst (by rfl) HF5.out.1 (some ⟨w5.heap.size, 0, none⟩) 1 1 (fun _ => .slice vo m vc) (by rfl) HF5.out.2.2.2.2.2 (fun _ _ => rfl) (fun e => by cases e) hll HF5.out.2.2.2.2.1.size w HF5.out.2.2.2.2.1 (Nat.le_refl _) ?_
          intro v' w6 hown6 hg6 hb6
          have H6 : Hid (WLs w.heap.size v' (n - 1) (srL f (k + 1)) w6 ∧ Below w.heap.size w w6) := by
            refine ⟨?_, hb6⟩
            rw [HNx.out]
            have hp := wl_push HF5.out.1 HF5.out.2.1 HF5.out.2.2.1 HF5.out.2.2.2.1 hg6
            exact ⟨_, hown6, hp.1, hp.2⟩
          clear hown6 hg6 hb6
          refine HK.out _ _ (fun _ => True.intro) ?_
          clear HK K
          try simp only [Act.put, List.setIfInBounds_toArray, List.set_cons_zero, List.set_cons_succ]
          refine wpAnyX_one (i := 12) (by kernel_rfl) (by rw [List.getElem?_toArray]; rfl) (fun K hK => ?_)
          have HK : Hid _ := hK
          clear hK
          go_simp
          refine HK.out _ _ (fun h => absurd rfl h) ?_
          clear HK K
          try simp only [Act.put, List.setIfInBounds_toArray, List.set_cons_zero, List.set_cons_succ]
          refine wpAnyX_done (by kernel_rfl) (NoPanic.normal ?_)
          go_wp2
          go_roundw
          case rel => exact ⟨k + 1, by omega, by go_num, H6.out⟩
          case measure => simp [intOf]; omega
      · have zk : ((k : Int) == 0) = false := beq_eq_false_iff_ne.2 (by omega)
        obtain ⟨k1, hk1⟩ : ∃ k1, k1 = k - 1 := ⟨_, rfl⟩
        have wk1 : IntKind.i64.wrap ((k : Int) - 1) = (k1 : Int) := wrap_to (by omega) (by omega)
        have hk1n : (k1 : Int) < (n : Int) := by omega
        have hk10 : (0 : Int) ≤ (k1 : Int) := by omega
        obtain ⟨b1, o1, e1, hc1⟩ := HX.out.1 k1 (by omega)
        cases e1
        obtain ⟨y, hy⟩ : ∃ y, y = f k1 := ⟨_, rfl⟩
        replace hc1 : wr.cell? ⟨bx, ox + k1, none⟩ = some (.int .i64 (y : Nat)) := by rw [hy]; exact hc1
        by_cases hyx : y = x
        · have zyx : ((y : Int) != (x : Int)) = false := by rw [hyx]; simp
          have HNx : Hid (WLs w.heap.size u3 (n - 1) (srL f (k + 1)) wr) := by
            show WLs w.heap.size u3 (n - 1) (srL f k ++ if k = 0 ∨ f (k - 1) ≠ f k then [wo k f] else []) wr
            rw [if_neg (by rintro (e | e); exact hk0 e; exact e (by rw [← hk1, ← hy, ← hx, hyx])), List.append_nil]
            exact HG.out.1
          clear hk1 hy hx hyx hk0
          go_wp2
          go_roundw
          case rel => exact ⟨k + 1, by omega, by go_num, HNx.out, HG.out.2⟩
          case measure => simp [intOf]; omega
        · have zyx : ((y : Int) != (x : Int)) = true := bne_iff_ne.2 (by omega)
          have HNx : Hid (srL f (k + 1) = srL f k ++ [wo k f]) := by show srL f k ++ _ = _; rw [if_pos (Or.inr (by rw [← hk1, ← hy, ← hx]; exact hyx))]
          clear hk1 hy hx hyx hk0
          by_cases hca : ca = k + 1
          · have HNA : Hid (n = k + 1) := by show n = k + 1; omega
            subst hca
            have h1' : (k : Int) ≤ (k : Int) + 1 := by omega
            have h4' : (n : Int) ≤ (k : Int) + 1 := by omega
            go_wp2
            refine wp_region_noPanic ?_
            refine wp_region_X (S := fun _ => True) 12 (by kernel_rfl) ?_
            refine wpAnyX_take (i := 0) (v := ?_) (by rw [List.getElem?_toArray]; rfl) (by kernel_rfl) (by kernel_rfl) (by kernel_rfl) (by kernel_rfl) (fun _ _ _ h => h) True.intro (Or.inl ⟨by rfl, ?_⟩) ?_
            rotate_left
            · intro wz hSz; go_simp; first | done | with_reducible rfl | (simp only [hwr, htn, h2, h3, Nat.sub_self, if_true, if_false, and_self]; first | done | with_reducible rfl)
            try simp only [Act.put, List.setIfInBounds_toArray, List.set_cons_zero, List.set_cons_succ]
            refine wpAnyX_take (i := 1) (v := ?_) (by rw [List.getElem?_toArray]; rfl) (by kernel_rfl) (by kernel_rfl) (by kernel_rfl) (by kernel_rfl) (fun _ _ _ h => h) True.intro (Or.inl ⟨by rfl, ?_⟩) ?_
            rotate_left
            · intro wz hSz; go_simp; first | done | with_reducible rfl | (simp only [hwr, htn, h2, h3, Nat.sub_self, if_true, if_false, and_self]; first | done | with_reducible rfl)
            try simp only [Act.put, List.setIfInBounds_toArray, List.set_cons_zero, List.set_cons_succ]
            refine wpAnyX_take (i := 2) (v := ?_) (by rw [List.getElem?_toArray]; rfl) (by kernel_rfl) (by kernel_rfl) (by kernel_rfl) (by kernel_rfl) (fun _ _ _ h => h) True.intro (Or.inl ⟨by rfl, ?_⟩) ?_
            rotate_left
            · intro wz hSz; go_simp; first | done | with_reducible rfl | (simp only [hwr, htn, h2, h3, Nat.sub_self, if_true, if_false, and_self]; first | done | with_reducible rfl)
            try simp only [Act.put, List.setIfInBounds_toArray, List.set_cons_zero, List.set_cons_succ]
            refine wpAnyX_take (i := 3) (v := ?_) (by rw [List.getElem?_toArray]; rfl) (by kernel_rfl) (by kernel_rfl) (by kernel_rfl) (by kernel_rfl) (fun _ _ _ h => h) True.intro (Or.inl ⟨by rfl, ?_⟩) ?_
            rotate_left
            · intro wz hSz; go_simp; first | done | with_reducible rfl | (simp only [hwr, htn, h2, h3, Nat.sub_self, if_true, if_false, and_self]; first | done | with_reducible rfl)
            try simp only [Act.put, List.setIfInBounds_toArray, List.set_cons_zero, List.set_cons_succ]
            refine wpAnyX_take (i := 4) (v := ?_) (by rw [List.getElem?_toArray]; rfl) (by kernel_rfl) (by kernel_rfl) (by kernel_rfl) (by kernel_rfl) (fun _ _ _ h => h) True.intro (Or.inl ⟨by rfl, ?_⟩) ?_
            rotate_left
            · intro wz hSz; go_simp; first | done | with_reducible rfl | (simp only [hwr, htn, h2, h3, Nat.sub_self, if_true, if_false, and_self]; first | done | with_reducible rfl)
            try simp only [Act.put, List.setIfInBounds_toArray, List.set_cons_zero, List.set_cons_succ]
            refine wpAnyX_take (i := 5) (v := ?_) (by rw [List.getElem?_toArray]; rfl) (by kernel_rfl) (by kernel_rfl) (by kernel_rfl) (by kernel_rfl) (fun _ _ _ h => h) True.intro (Or.inl ⟨by rfl, ?_⟩) ?_
            rotate_left
            · intro wz hSz; go_simp; first | done | with_reducible rfl | (simp only [hwr, htn, h2, h3, Nat.sub_self, if_true, if_false, and_self]; first | done | with_reducible rfl)
            try simp only [Act.put, List.setIfInBounds_toArray, List.set_cons_zero, List.set_cons_succ]
            refine wpAnyX_take (i := 6) (v := ?_) (by rw [List.getElem?_toArray]; rfl) (by kernel_rfl) (by kernel_rfl) (by kernel_rfl) (by kernel_rfl) (fun _ _ _ h => h) True.intro (Or.inl ⟨by rfl, ?_⟩) ?_
            rotate_left
            · intro wz hSz; go_simp; first | done | with_reducible rfl | (simp only [hwr, htn, h2, h3, Nat.sub_self, if_true, if_false, and_self]; first | done | with_reducible rfl)
            try simp only [Act.put, List.setIfInBounds_toArray, List.set_cons_zero, List.set_cons_succ]
            refine wpAnyX_take (i := 7) (v := ?_) (by rw [List.getElem?_toArray]; rfl) (by kernel_rfl) (by kernel_rfl) (by kernel_rfl) (by kernel_rfl) (fun _ _ _ h => h) True.intro (Or.inl ⟨by rfl, ?_⟩) ?_
            rotate_left
            · intro wz hSz; go_simp; first | done | with_reducible rfl | (simp only [hwr, htn, h2, h3, Nat.sub_self, if_true, if_false, and_self]; first | done | with_reducible rfl)
            try simp only [Act.put, List.setIfInBounds_toArray, List.set_cons_zero, List.set_cons_succ]
            refine wpAnyX_one (i := 8) (by kernel_rfl) (by rw [List.getElem?_toArray]; rfl) (fun K hK => ?_)
            have HK : Hid _ := hK
            clear hK
            go_simp
            obtain ⟨we, hwe⟩ : ∃ we, we = (wr.alloc (.cells #[.slice (some ⟨bx, ox, none⟩) k (k + 1), .slice (some ⟨bx, ox, none⟩) 0 0] 22)).drew := ⟨_, rfl⟩
            have HE : Hid (Below wr.heap.size wr we ∧ TwoL wr.heap.size k (n - (k + 1)) (fun j => ((f j : Nat) : Int)) (fun j => ((f (k + 1 + j) : Nat) : Int)) we) := by
              have hb : Below wr.heap.size wr we := by rw [hwe]; exact ((Below.refl _ _).alloc (Nat.le_refl _) _).drew
              refine ⟨hb, ⟨fun r hr => ?_⟩⟩
              have hlx := HX.out.2
              have hS := HX.out.1.below hb hlx
              have hly : bx < we.heap.size := Nat.lt_of_lt_of_le (hlx _ rfl) hb.size
              rcases Nat.lt_or_ge r 1 with h | h
              · have e : r = 0 := by omega
                subst e
                exact ⟨_, k, k + 1, fun j => ((f j : Nat) : Int), by rw [hwe]; simp, fun j hj => hS j (by omega), (fun y hy => by cases hy; exact hly), (fun e => by cases e), by show 0 + k = k; omega, List.nil_append _⟩
              · have e : r = 1 := by omega
                subst e
                refine ⟨(some ⟨bx, ox, none⟩), 0, 0, fun j => ((f (k + 1 + j) : Nat) : Int), by rw [hwe]; simp, ?_, (fun y hy => by cases hy; exact hly), (fun e => by cases e), by have := HNA.out; show k + 0 = k + (n - (k + 1)); omega, by show zl k _ ++ zl 0 _ = zl k _ ++ zl (n - (k + 1)) _; rw [show n - (k + 1) = 0 by have := HNA.out; omega]⟩
                exact fun j hj => absurd hj (by omega)
            rw [← hwe]
            refine HK.out _ _ (fun _ => True.intro) ?_
            clear HK K hwe
            try simp only [Act.put, List.setIfInBounds_toArray, List.set_cons_zero, List.set_cons_succ]
            refine wpAnyX_one (i := 9) (by kernel_rfl) (by rw [List.getElem?_toArray]; rfl) (fun K hK => ?_)
            have HK : Hid _ := hK
            clear hK
            go_simp
            refine (concat2 HE.out.2 (by omega)).mono ?_
            rintro e w5 ⟨v5, rfl, ho5, hb5⟩
            rw [zl_wo k n _ (by omega), ← HM.out] at ho5
            obtain ⟨vo, vc, hv5, _⟩ := OwnI.argL (n := m) (y := fun j => ((wo k f j : Nat) : Int)) ho5
            subst hv5
            have hb5r : Below wr.heap.size wr w5 := bel_up' HE.out.1 hb5
            have H5 : Hid (OwnV w.heap.size u3 lst w5 ∧ lst.length = (srL f k).length ∧ (∀ (j : Nat) (u : Value) (c : Nat → Nat), lst[j]? = some u → (srL f k)[j]? = some c → OwnI w.heap.size u (wz (n - 1) c) w5) ∧ OwnI w.heap.size (.slice vo m vc) (wz (n - 1) (wo k f)) w5 ∧ Below w.heap.size w w5) := ⟨HL.out.1.below hb5r (Nat.le_refl _), HL.out.2.1, fun j u c hu hc => (HL.out.2.2 j u c hu hc).below hb5r fun q hq => ((HL.out.2.2 j u c hu hc).lt q hq).2, by rw [← HM.out]; exact ho5.mono (Nat.le_trans hszr HE.out.1.size), bel_up' HG.out.2 hb5r⟩
            clear ho5 hb5 hb5r
            refine HK.out _ _ (fun _ => True.intro) ?_
            clear HK K
            try simp only [Act.put, List.setIfInBounds_toArray, List.set_cons_zero, List.set_cons_succ]
            refine wpAnyX_one (i := 10) (by kernel_rfl) (by rw [List.getElem?_toArray]; rfl) (fun K hK => ?_)
            have HK : Hid _ := hK
            clear hK
            go_simp
            obtain ⟨wf, hwf⟩ : ∃ wf, wf = w5.alloc (.cells #[.slice vo m vc] 22) := ⟨_, rfl⟩
            have hal : Below w5.heap.size w5 wf := by rw [hwf]; exact (Below.refl _ _).alloc (Nat.le_refl _) _
            have HF5 : Hid (OwnV w.heap.size u3 lst wf ∧ lst.length = (srL f k).length ∧ (∀ (j : Nat) (u : Value) (c : Nat → Nat), lst[j]? = some u → (srL f k)[j]? = some c → OwnI w.heap.size u (wz (n - 1) c) wf) ∧ OwnI w.heap.size (.slice vo m vc) (wz (n - 1) (wo k f)) wf ∧ Below w.heap.size w wf ∧ SlV (some ⟨w5.heap.size, 0, none⟩) 1 (fun _ => .slice vo m vc) wf) := ⟨H5.out.1.below hal (Nat.le_refl _), H5.out.2.1, fun j u c hu hc => (H5.out.2.2.1 j u c hu hc).below hal fun q hq => ((H5.out.2.2.1 j u c hu hc).lt q hq).2, H5.out.2.2.2.1.below hal fun q hq => (H5.out.2.2.2.1.lt q hq).2, bel_up' H5.out.2.2.2.2 hal, fun j hj => ⟨_, 0, rfl, by rw [hwf, show 0 + j = 0 by omega, cell_of_row _ _ _ _ _ (0, 0) (two_new _)]; rfl⟩⟩
            rw [← hwf]
            clear hwf hal
            refine HK.out _ _ (fun _ => True.intro) ?_
            clear HK K
            try simp only [Act.put, List.setIfInBounds_toArray, List.set_cons_zero, List.set_cons_succ]
            refine wpAnyX_one (i := 11) (by kernel_rfl) (by rw [List.getElem?_toArray]; rfl) (fun K hK => ?_)
            have HK : Hid _ := hK
            clear hK
            refine step_append_sls (by rfl) _ _ (by rfl) w.heap.size u3 lst (by rfl) HF5.out.1 (some ⟨w5.heap.size, 0, none⟩) 1 1 (fun _ => .slice vo m vc) (by rfl) HF5.out.2.2.2.2.2 (fun _ _ => rfl) (fun e => by cases e) hll HF5.out.2.2.2.2.1.size w HF5.out.2.2.2.2.1 (Nat.le_refl _) ?_
            intro v' w6 hown6 hg6 hb6
            have H6 : Hid (WLs w.heap.size v' (n - 1) (srL f (k + 1)) w6 ∧ Below w.heap.size w w6) := by
              refine ⟨?_, hb6⟩
              rw [HNx.out]
              have hp := wl_push HF5.out.1 HF5.out.2.1 HF5.out.2.2.1 HF5.out.2.2.2.1 hg6
              exact ⟨_, hown6, hp.1, hp.2⟩
            clear hown6 hg6 hb6
            refine HK.out _ _ (fun _ => True.intro) ?_
            clear HK K
            try simp only [Act.put, List.setIfInBounds_toArray, List.set_cons_zero, List.set_cons_succ]
            refine wpAnyX_one (i := 12) (by kernel_rfl) (by rw [List.getElem?_toArray]; rfl) (fun K hK => ?_)
            have HK : Hid _ := hK
            clear hK
            go_simp
            refine HK.out _ _ (fun h => absurd rfl h) ?_
            clear HK K
            try simp only [Act.put, List.setIfInBounds_toArray, List.set_cons_zero, List.set_cons_succ]
            refine wpAnyX_done (by kernel_rfl) (NoPanic.normal ?_)
            go_wp2
            go_roundw
            case rel => exact ⟨k + 1, by omega, by go_num, H6.out⟩
            case measure => simp [intOf]; omega
          · skip
            go_wp2
            refine wp_region_noPanic ?_
            refine wp_region_X (S := fun _ => True) 12 (by kernel_rfl) ?_
            refine wpAnyX_take (i := 0) (v := ?_) (by rw [List.getElem?_toArray]; rfl) (by kernel_rfl) (by kernel_rfl) (by kernel_rfl) (by kernel_rfl) (fun _ _ _ h => h) True.intro (Or.inl ⟨by rfl, ?_⟩) ?_
            rotate_left
            · intro wz hSz; go_simp; first | done | with_reducible rfl | (simp only [hwr, htn, h2, h3, hca, if_true, if_false, and_self]; first | done | with_reducible rfl)
            try simp only [Act.put, List.setIfInBounds_toArray, List.set_cons_zero, List.set_cons_succ]
            refine wpAnyX_take (i := 1) (v := ?_) (by rw [List.getElem?_toArray]; rfl) (by kernel_rfl) (by kernel_rfl) (by kernel_rfl) (by kernel_rfl) (fun _ _ _ h => h) True.intro (Or.inl ⟨by rfl, ?_⟩) ?_
            rotate_left
            · intro wz hSz; go_simp; first | done | with_reducible rfl | (simp only [hwr, htn, h2, h3, hca, if_true, if_false, and_self]; first | done | with_reducible rfl)
            try simp only [Act.put, List.setIfInBounds_toArray, List.set_cons_zero, List.set_cons_succ]
            refine wpAnyX_take (i := 2) (v := ?_) (by rw [List.getElem?_toArray]; rfl) (by kernel_rfl) (by kernel_rfl) (by kernel_rfl) (by kernel_rfl) (fun _ _ _ h => h) True.intro (Or.inl ⟨by rfl, ?_⟩) ?_
            rotate_left
            · intro wz hSz; go_simp; first | done | with_reducible rfl | (simp only [hwr, htn, h2, h3, hca, if_true, if_false, and_self]; first | done | with_reducible rfl)
            try simp only [Act.put, List.setIfInBounds_toArray, List.set_cons_zero, List.set_cons_succ]
            refine wpAnyX_take (i := 3) (v := ?_) (by rw [List.getElem?_toArray]; rfl) (by kernel_rfl) (by kernel_rfl) (by kernel_rfl) (by kernel_rfl) (fun _ _ _ h => h) True.intro (Or.inl ⟨by rfl, ?_⟩) ?_
            rotate_left
            · intro wz hSz; go_simp; first | done | with_reducible rfl | (simp only [hwr, htn, h2, h3, hca, if_true, if_false, and_self]; first | done | with_reducible rfl)
            try simp only [Act.put, List.setIfInBounds_toArray, List.set_cons_zero, List.set_cons_succ]
            refine wpAnyX_take (i := 4) (v := ?_) (by rw [List.getElem?_toArray]; rfl) (by kernel_rfl) (by kernel_rfl) (by kernel_rfl) (by kernel_rfl) (fun _ _ _ h => h) True.intro (Or.inl ⟨by rfl, ?_⟩) ?_
            rotate_left
            · intro wz hSz; go_simp; first | done | with_reducible rfl | (simp only [hwr, htn, h2, h3, hca, if_true, if_false, and_self]; first | done | with_reducible rfl)
            try simp only [Act.put, List.setIfInBounds_toArray, List.set_cons_zero, List.set_cons_succ]
            refine wpAnyX_take (i := 5) (v := ?_) (by rw [List.getElem?_toArray]; rfl) (by kernel_rfl) (by kernel_rfl) (by kernel_rfl) (by kernel_rfl) (fun _ _ _ h => h) True.intro (Or.inl ⟨by rfl, ?_⟩) ?_
            rotate_left
            · intro wz hSz; go_simp; first | done | with_reducible rfl | (simp only [hwr, htn, h2, h3, hca, if_true, if_false, and_self]; first | done | with_reducible rfl)
            try simp only [Act.put, List.setIfInBounds_toArray, List.set_cons_zero, List.set_cons_succ]
            refine wpAnyX_take (i := 6) (v := ?_) (by rw [List.getElem?_toArray]; rfl) (by kernel_rfl) (by kernel_rfl) (by kernel_rfl) (by kernel_rfl) (fun _ _ _ h => h) True.intro (Or.inl ⟨by rfl, ?_⟩) ?_
            rotate_left
            · intro wz hSz; go_simp; first | done | with_reducible rfl | (simp only [hwr, htn, h2, h3, hca, if_true, if_false, and_self]; first | done | with_reducible rfl)
            try simp only [Act.put, List.setIfInBounds_toArray, List.set_cons_zero, List.set_cons_succ]
            refine wpAnyX_take (i := 7) (v := ?_) (by rw [List.getElem?_toArray]; rfl) (by kernel_rfl) (by kernel_rfl) (by kernel_rfl) (by kernel_rfl) (fun _ _ _ h => h) True.intro (Or.inl ⟨by rfl, ?_⟩) ?_
            rotate_left
            · intro wz hSz; go_simp; first | done | with_reducible rfl | (simp only [hwr, htn, h2, h3, hca, if_true, if_false, and_self]; first | done | with_reducible rfl)
            try simp only [Act.put, List.setIfInBounds_toArray, List.set_cons_zero, List.set_cons_succ]
            refine wpAnyX_one (i := 8) (by kernel_rfl) (by rw [List.getElem?_toArray]; rfl) (fun K hK => ?_)
            have HK : Hid _ := hK
            clear hK
            go_simp
            obtain ⟨we, hwe⟩ : ∃ we, we = (wr.alloc (.cells #[.slice (some ⟨bx, ox, none⟩) k (ca), .slice (some ⟨bx, ox + (k + 1), none⟩) (n - (k + 1)) (ca - (k + 1))] 22)).drew := ⟨_, rfl⟩
            have HE : Hid (Below wr.heap.size wr we ∧ TwoL wr.heap.size k (n - (k + 1)) (fun j => ((f j : Nat) : Int)) (fun j => ((f (k + 1 + j) : Nat) : Int)) we) := by
              have hb : Below wr.heap.size wr we := by rw [hwe]; exact ((Below.refl _ _).alloc (Nat.le_refl _) _).drew
              refine ⟨hb, ⟨fun r hr => ?_⟩⟩
              have hlx := HX.out.2
              have hS := HX.out.1.below hb hlx
              have hly : bx < we.heap.size := Nat.lt_of_lt_of_le (hlx _ rfl) hb.size
              rcases Nat.lt_or_ge r 1 with h | h
              · have e : r = 0 := by omega
                subst e
                exact ⟨_, k, ca, fun j => ((f j : Nat) : Int), by rw [hwe]; simp, fun j hj => hS j (by omega), (fun y hy => by cases hy; exact hly), (fun e => by cases e), by show 0 + k = k; omega, List.nil_append _⟩
              · have e : r = 1 := by omega
                subst e
                refine ⟨(some ⟨bx, ox + (k + 1), none⟩), (n - (k + 1)), (ca - (k + 1)), fun j => ((f (k + 1 + j) : Nat) : Int), by rw [hwe]; simp, ?_, (fun y hy => by cases hy; exact hly), (fun e => by cases e), by show k + (n - (k + 1)) = k + (n - (k + 1)); rfl, rfl⟩
                intro j hj
                obtain ⟨b1, o1, e1, hc1⟩ := hS (k + 1 + j) (by omega)
                cases e1
                exact ⟨bx, ox + (k + 1), rfl, by rw [show ox + (k + 1) + j = ox + (k + 1 + j) by omega]; exact hc1⟩
            rw [← hwe]
            refine HK.out _ _ (fun _ => True.intro) ?_
            clear HK K hwe
            try simp only [Act.put, List.setIfInBounds_toArray, List.set_cons_zero, List.set_cons_succ]
            refine wpAnyX_one (i := 9) (by kernel_rfl) (by rw [List.getElem?_toArray]; rfl) (fun K hK => ?_)
            have HK : Hid _ := hK
            clear hK
            go_simp
            refine (concat2 HE.out.2 (by omega)).mono ?_
            rintro e w5 ⟨v5, rfl, ho5, hb5⟩
            rw [zl_wo k n _ (by omega), ← HM.out] at ho5
            obtain ⟨vo, vc, hv5, _⟩ := OwnI.argL (n := m) (y := fun j => ((wo k f j : Nat) : Int)) ho5
            subst hv5
            have hb5r : Below wr.heap.size wr w5 := bel_up' HE.out.1 hb5
            have H5 : Hid (OwnV w.heap.size u3 lst w5 ∧ lst.length = (srL f k).length ∧ (∀ (j : Nat) (u : Value) (c : Nat → Nat), lst[j]? = some u → (srL f k)[j]? = some c → OwnI w.heap.size u (wz (n - 1) c) w5) ∧ OwnI w.heap.size (.slice vo m vc) (wz (n - 1) (wo k f)) w5 ∧ Below w.heap.size w w5) := ⟨HL.out.1.below hb5r (Nat.le_refl _), HL.out.2.1, fun j u c hu hc => (HL.out.2.2 j u c hu hc).below hb5r fun q hq => ((HL.out.2.2 j u c hu hc).lt q hq).2, by rw [← HM.out]; exact ho5.mono (Nat.le_trans hszr HE.out.1.size), bel_up' HG.out.2 hb5r⟩
            clear ho5 hb5 hb5r
            refine HK.out _ _ (fun _ => True.intro) ?_
            clear HK K
            try simp only [Act.put, List.setIfInBounds_toArray, List.set_cons_zero, List.set_cons_succ]
            refine wpAnyX_one (i := 10) (by kernel_rfl) (by rw [List.getElem?_toArray]; rfl) (fun K hK => ?_)
            have HK : Hid _ := hK
            clear hK
            go_simp
            obtain ⟨wf, hwf⟩ : ∃ wf, wf = w5.alloc (.cells #[.slice vo m vc] 22) := ⟨_, rfl⟩
            have hal : Below w5.heap.size w5 wf := by rw [hwf]; exact (Below.refl _ _).alloc (Nat.le_refl _) _
            have HF5 : Hid (OwnV w.heap.size u3 lst wf ∧ lst.length = (srL f k).length ∧ (∀ (j : Nat) (u : Value) (c : Nat → Nat), lst[j]? = some u → (srL f k)[j]? = some c → OwnI w.heap.size u (wz (n - 1) c) wf) ∧ OwnI w.heap.size (.slice vo m vc) (wz (n - 1) (wo k f)) wf ∧ Below w.heap.size w wf ∧ SlV (some ⟨w5.heap.size, 0, none⟩) 1 (fun _ => .slice vo m vc) wf) := ⟨H5.out.1.below hal (Nat.le_refl _), H5.out.2.1, fun j u c hu hc => (H5.out.2.2.1 j u c hu hc).below hal fun q hq => ((H5.out.2.2.1 j u c hu hc).lt q hq).2, H5.out.2.2.2.1.below hal fun q hq => (H5.out.2.2.2.1.lt q hq).2, bel_up' H5.out.2.2.2.2 hal, fun j hj => ⟨_, 0, rfl, by rw [hwf, show 0 + j = 0 by omega, cell_of_row _ _ _ _ _ (0, 0) (two_new _)]; rfl⟩⟩
            rw [← hwf]
            clear hwf hal
            refine HK.out _ _ (fun _ => True.intro) ?_
            clear HK K
            try simp only [Act.put, List.setIfInBounds_toArray, List.set_cons_zero, List.set_cons_succ]
            refine wpAnyX_one (i := 11) (by kernel_rfl) (by rw [List.getElem?_toArray]; rfl) (fun K hK => ?_)
            have HK : Hid _ := hK
            clear hK
            refine step_append_sls (by rfl) _ _ (by rfl) w.heap.size u3 lst (by rfl) HF5.out.1 (some ⟨w5.heap.size, 0, none⟩) 1 1 (fun _ => .slice vo m vc) (by rfl) HF5.out.2.2.2.2.2 (fun _ _ => rfl) (fun e => by cases e) hll HF5.out.2.2.2.2.1.size w HF5.out.2.2.2.2.1 (Nat.le_refl _) ?_
            intro v' w6 hown6 hg6 hb6
            have H6 : Hid (WLs w.heap.size v' (n - 1) (srL f (k + 1)) w6 ∧ Below w.heap.size w w6) := by
              refine ⟨?_, hb6⟩
              rw [HNx.out]
              have hp := wl_push HF5.out.1 HF5.out.2.1 HF5.out.2.2.1 HF5.out.2.2.2.1 hg6
              exact ⟨_, hown6, hp.1, hp.2⟩
            clear hown6 hg6 hb6
            refine HK.out _ _ (fun _ => True.intro) ?_
            clear HK K
            try simp only [Act.put, List.setIfInBounds_toArray, List.set_cons_zero, List.set_cons_succ]
            refine wpAnyX_one (i := 12) (by kernel_rfl) (by rw [List.getElem?_toArray]; rfl) (fun K hK => ?_)
            have HK : Hid _ := hK
            clear hK
            go_simp
            refine HK.out _ _ (fun h => absurd rfl h) ?_
            clear HK K
            try simp only [Act.put, List.setIfInBounds_toArray, List.set_cons_zero, List.set_cons_succ]
            refine wpAnyX_done (by kernel_rfl) (NoPanic.normal ?_)
            go_wp2
            go_roundw
            case rel => exact ⟨k + 1, by omega, by go_num, H6.out⟩
            case measure => simp [intOf]; omega
    · have hib : ¬ (k : Int) < (n : Int) := by omega
      have HE : Hid (WLs w.heap.size u3 (n - 1) (srL f n) wr ∧ Below w.heap.size w wr) := by
        have h := HG.out
        rw [show k = n by omega] at h; exact h
      go_wp2
      go_ret
      exact ⟨_, rfl, HE.out⟩
end Go.Proofs.Ytillljojdnofgaa
