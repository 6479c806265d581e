/- Trellises: all ways at once (through), of ways. -/
import Derived.Test.YtlljaliemldjkaaZKV10
import Derived.Test.YtlljaliemldjkaaZS84
import Derived.Test.YtlljaliemldjkaaZW13
namespace Go.Proofs.Ytlljaliemldjkaa
open Go.RowKit Go.Maps

theorem own_sm {b n : Nat} {D : DataW Value} {w w' : World} (h : w.ownsMap Try.prog 3 hlR b n D) (e : w'.heap[b]? = w.heap[b]?) : w'.ownsMap Try.prog 3 hlR b n D := by
  obtain ⟨es, clock, hb, Ft, hs, hD⟩ := h
  exact ⟨es, clock, e.trans hb, Ft, hs, hD⟩
theorem rng_sm {b r n cnt : Nat} {D : DataW Value} {left : Lit → Bool} {w w' : World} (h : w.ranges Try.prog 3 hlR b r n D left cnt) (e : w'.heap[b]? = w.heap[b]?) (e2 : w'.heap[r]? = w.heap[r]?) : w'.ranges Try.prog 3 hlR b r n D left cnt := by
  obtain ⟨es, clock, since, seen, c0, hb, F, hs, hD, hr, rest⟩ := h
  exact ⟨es, clock, since, seen, c0, e.trans hb, F, hs, hD, e2.trans hr, rest⟩
theorem low_and {x M : Nat} (hx : x < 1073741824) (hM : M ≤ 4) : bits BinOp.and IntKind.i64 (x : Int) ((2 ^ M - 1 : Nat) : Int) = ((x % 2 ^ M : Nat) : Int) := by
  have h : 2 ^ M ≤ 16 := Nat.pow_le_pow_right (n := 2) (by omega) hM
  rw [and_i64n (by omega) (by omega), Nat.and_two_pow_sub_one_eq_mod]
theorem tv_wmap : Try.prog.underlying 78 = some (.map 3 59) := by kernel_rfl
theorem tv_wzero (w : World) : (zeroValue 59).run Try.prog w = .ok (.agg #[.int .i64 0, .int .i64 0]) w := by kernel_rfl

theorem nd_lenV : ∀ {V L : List Nat}, V.Nodup → (∀ k ∈ V, k ∈ L) → V.length ≤ L.length
  | [], L, _, _ => Nat.zero_le _
  | a :: V, L, hn, hs => by
    obtain ⟨h1, h2⟩ := List.nodup_cons.1 hn
    have ha : a ∈ L := hs a (List.mem_cons_self ..)
    have h3 := nd_lenV (V := V) (L := L.erase a) h2 fun k hk => (List.mem_erase_of_ne (fun e => h1 (by rw [← e]; exact hk))).2 (hs k (List.mem_cons_of_mem _ hk))
    rw [List.length_erase_of_mem ha] at h3
    have h4 := List.length_pos_of_mem ha
    rw [List.length_cons]
    omega
set_option maxHeartbeats 16000000 in
set_option maxRecDepth 100000 in
theorem throughW_any {st : Nat → Nat → Nat × Nat → Nat × Nat} {Ok : Nat → Nat × Nat → Prop} {M n b1 b2 b3 : Nat} {a0 ar : Nat × Nat} {w : World} (hM : M ≤ 4) (hn : n ≤ 20)
    (hst : ∀ k x a wx, k < n + M → x < 2 ^ (M + 1) → Ok k a → Below w.heap.size w wx → Calls Try.prog 35 #[.int .i64 (k : Nat), .int .i64 (x : Nat), wyV a, .pointer (some ⟨b1, 0, none⟩), .pointer (some ⟨b2, 0, none⟩), .pointer (some ⟨b3, 0, none⟩)] wx fun e w' => e = .returned (wyV (st k x a)) ∧ Below wx.heap.size wx w')
    (hF : ∀ k s a, k ≤ n + M → thF wyB M n st a0 k s = some a → Ok k a)
    (hr : thF wyB M n st a0 (n + M) 0 = some ar) :
    Calls Try.prog 37 #[.int .i64 (M : Nat), .int .i64 (n : Nat), wyV a0, .func (.func 35) #[] #[.pointer (some ⟨b1, 0, none⟩), .pointer (some ⟨b2, 0, none⟩), .pointer (some ⟨b3, 0, none⟩)], .func (.func 38) #[] #[]] w fun e w' => e = .returned (wyV ar) ∧ Below w.heap.size w w' := by
  have HS : Hid (∀ k x a wx, k < n + M → x < 2 ^ (M + 1) → Ok k a → Below w.heap.size w wx → Calls Try.prog 35 #[.int .i64 (k : Nat), .int .i64 (x : Nat), wyV a, .pointer (some ⟨b1, 0, none⟩), .pointer (some ⟨b2, 0, none⟩), .pointer (some ⟨b3, 0, none⟩)] wx fun e w' => e = .returned (wyV (st k x a)) ∧ Below wx.heap.size wx w') := hst
  have HF : Hid ((∀ k s a, k ≤ n + M → thF wyB M n st a0 k s = some a → Ok k a) ∧ thF wyB M n st a0 (n + M) 0 = some ar) := ⟨hF, hr⟩
  obtain ⟨T, hT⟩ : ∃ T, T = n + M := ⟨_, rfl⟩
  have hTw : IntKind.i64.wrap ((n : Int) + (M : Int)) = (T : Int) := wrap_to (by omega) (by omega)
  have HT : Hid (T = n + M) := hT
  have hT24 : T ≤ 24 := by omega
  obtain ⟨a, b⟩ := a0
  obtain ⟨w2, hw2⟩ : ∃ w2, w2 = (w.alloc (.cells #[.int .i64 (a : Nat), .int .i64 (b : Nat)] 59)).alloc (.cells #[.int .i64 0, .int .i64 0] 59) := ⟨_, rfl⟩
  obtain ⟨B, hB⟩ : ∃ B, B = w.heap.size := ⟨_, rfl⟩
  have H2 : Hid (W2 B a b w2 ∧ W2 (B + 1) 0 0 w2 ∧ Below B w w2 ∧ w2.heap.size = B + 2) := by
    rw [hw2, hB]
    have h1 := W2.new (a : Int) (b : Int) w
    have h2 := W2.new 0 0 (w.alloc (.cells #[.int .i64 (a : Nat), .int .i64 (b : Nat)] 59))
    rw [World.size_alloc] at h2
    exact ⟨h1.alloc _, h2, ((Below.refl _ _).alloc (Nat.le_refl _) _).alloc (by simp) _, by simp⟩
  have hmm := @run_makeMap Try.prog
  obtain ⟨w3, hw3⟩ : ∃ w3, w3 = w2.alloc (.map #[] 0) := ⟨_, rfl⟩
  have ho3 : w3.ownsMap Try.prog 3 hlR w2.heap.size 0 (.map []) := by rw [hw3]; exact World.ownsMap_made _ _ _ _
  obtain ⟨w4, hr4, ho4, hg4⟩ := ho3.update tv_law tv_wmap (by unfold maxLen; omega) (tv_key (k := 0) (by omega)) (show hlR (.agg #[.int .i64 (a : Nat), .int .i64 (b : Nat)]) = some (.held (.agg #[.int .i64 (a : Nat), .int .i64 (b : Nat)]), []) from rfl)
  have H4 : Hid (w4.ownsMap Try.prog 3 hlR (B + 2) 1 ((DataW.map []).put (.int .i64 ((0 : Nat) : Int)) (.held (.agg #[.int .i64 (a : Nat), .int .i64 (b : Nat)]))) ∧ W2 (B + 1) 0 0 w4 ∧ Below B w w4 ∧ B + 2 < w4.heap.size) := by
    have e := H2.out.2.2.2
    have hb3 : Below w2.heap.size w2 w3 := by rw [hw3]; exact (Below.refl _ _).alloc (Nat.le_refl _) _
    have hs3 : w3.heap.size = B + 3 := by rw [hw3]; simp [e]
    rw [e] at ho4
    refine ⟨ho4, ?_, ?_, by have := hg4.size; omega⟩
    · exact (hg4.block (B + 1) (by omega) (by intro c; have := Option.some.inj c; omega)).trans (H2.out.2.1.below hb3)
    · exact (H2.out.2.2.1.trans (hb3.mono (by omega))).grown hg4 (by omega) (fun j hj => by have := Option.some.inj hj; omega)
  rw [hw3, hw2, World.size_alloc, World.size_alloc] at hr4
  replace hr4 : (Instr.mapUpdate 78 (.map (some (w.heap.size + 1 + 1))) (.int .i64 0) (.agg #[.int .i64 (a : Nat), .int .i64 (b : Nat)])).run Try.prog (((w.alloc (.cells #[.int .i64 (a : Nat), .int .i64 (b : Nat)] 59)).alloc (.cells #[.int .i64 0, .int .i64 0] 59)).alloc (.map #[] 0)) = _ := hr4
  clear hst hF hr hT ho3 ho4 hg4
  have p0 := H2.out.1.c0
  have p1 := H2.out.1.c1
  rw [hw2] at p0 p1
  show Calls Try.prog 37 #[.int .i64 (M : Nat), .int .i64 (n : Nat), .agg #[.int .i64 (a : Nat), .int .i64 (b : Nat)], .func (.func 35) #[] #[.pointer (some ⟨b1, 0, none⟩), .pointer (some ⟨b2, 0, none⟩), .pointer (some ⟨b3, 0, none⟩)], .func (.func 38) #[] #[]] w _
  go_enter Try.func37, Try.ntmps37
  go_wp2
  try rw [← hB]
  rw [hB] at H2 H4
  rw [← hB] at H2 H4
  have HBw : Hid (B = w.heap.size) := hB
  clear hB hr4 hw2 hw3 p0 p1 H2
  obtain ⟨TF, hTF⟩ : ∃ TF : Nat → Nat → Option (Nat × Nat), TF = thF wyB M n st (a, b) := ⟨_, rfl⟩
  have HTF : Hid (TF = thF wyB M n st (a, b)) := hTF
  rw [← hTF] at HF
  have h0 : MpD wyV ((DataW.map []).put (.int .i64 ((0 : Nat) : Int)) (.held (.agg #[.int .i64 (a : Nat), .int .i64 (b : Nat)]))) (TF 0) := by
    rw [hTF]
    exact ((MpD.nil wyV).put 0 (a, b)).congr (fun _ => rfl)
  have HSuc : Hid (∀ k, TF (k + 1) = nxF wyB M (chc n k) (st k) (TF k)) := fun k => by rw [hTF]; rfl
  have HKey : Hid (∀ k s, TF k s ≠ none → s < 2 ^ M) := fun k s => by rw [hTF]; exact thF_key wy_mts k s
  have H0 : Hid (MpD wyV ((DataW.map []).put (.int .i64 ((0 : Nat) : Int)) (.held (.agg #[.int .i64 (a : Nat), .int .i64 (b : Nat)]))) (TF 0)) := h0
  clear hTF h0
  go_loopw [11, 28] (fun vm vk wr => ∃ (k Bm N : Nat) (D : DataW Value), vm = .map (some Bm) ∧ vk = .int .i64 (k : Nat) ∧ k ≤ T ∧ Hid (wr.ownsMap Try.prog 3 hlR Bm N D ∧ MpD wyV D (TF k) ∧ W2 (B + 1) 0 0 wr ∧ Below B w wr ∧ B + 1 < Bm ∧ Bm < wr.heap.size)) (fun _ vk _ => T - (RowKit.intOf vk).toNat)
  case atStart => exact ⟨0, B + 2, 1, _, rfl, rfl, by omega, H4.out.1, H0.out, H4.out.2.1, H4.out.2.2.1, by omega, H4.out.2.2.2⟩
  case round =>
    obtain ⟨k, Bm, N, D, rfl, rfl, hk, HI⟩ := hrel
    rename World => wr
    by_cases hkT : k < T
    · have hkb : (k : Int) < (T : Int) := by omega
      obtain ⟨F, hF⟩ : ∃ F, F = TF k := ⟨_, rfl⟩
      obtain ⟨ch, hch⟩ : ∃ ch, ch = chc n k := ⟨_, rfl⟩
      have hch2 : ch ≤ 2 := by rw [hch]; exact chc_le n k
      have HFk : Hid (F = TF k ∧ ch = chc n k) := ⟨hF, hch⟩
      obtain ⟨wm, hwm⟩ : ∃ wm, wm = wr.alloc (.map #[] 0) := ⟨_, rfl⟩
      obtain ⟨B2, hB2e⟩ : ∃ B2, B2 = wr.heap.size := ⟨_, rfl⟩
      have HM : Hid (wm.ownsMap Try.prog 3 hlR Bm N D ∧ wm.ownsMap Try.prog 3 hlR B2 0 (.map []) ∧ wm.heap.size = B2 + 1 ∧ Below wr.heap.size wr wm) := by
        have hb : Below wr.heap.size wr wm := by rw [hwm]; exact (Below.refl _ _).alloc (Nat.le_refl _) _
        refine ⟨own_sm HI.out.1 (hb.block Bm HI.out.2.2.2.2.2), ?_, by rw [hwm, hB2e]; simp, hb⟩
        rw [hwm, hB2e]; exact World.ownsMap_made _ _ _ _
      have HCh : Hid (∀ wx, Calls Try.prog 51 #[.int .i64 (k : Nat), .int .i64 (n : Nat)] wx fun e w' => e = .returned (.int .i64 (ch : Nat)) ∧ w' = wx) := fun wx => by rw [hch]; exact choices_any k n wx
      clear hF hch
      go_wp2_with (first
        | (at_range; rw [← hwm]; refine wpList_range_own _ rfl _ 78 rfl 3 59 tv_law tv_wmap hlR Bm N D rfl HM.out.1 ?_; intro w6 hrg6 hg6 hs6)
        | go_in)
      obtain ⟨rB, hrB⟩ : ∃ rB, rB = wm.heap.size := ⟨_, rfl⟩
      rw [← hrB] at hrg6
      rw [← hrB, ← hB2e]
      have HB2 : Hid (B2 = wr.heap.size ∧ rB = wr.heap.size + 1) := ⟨hB2e, by rw [hrB, HM.out.2.2.1, hB2e]⟩
      have HBB : Hid (B + 1 < B2) := by have := lt_of_block HI.out.2.2.1; show B + 1 < B2; omega
      have H6 : Hid (w6.ranges Try.prog 3 hlR Bm rB N D (Maps.has D) (Maps.size D) ∧ w6.ownsMap Try.prog 3 hlR B2 0 (.map []) ∧ W2 (B + 1) 0 0 w6 ∧ Below wr.heap.size wr w6 ∧ rB < w6.heap.size) := by
        have hb6 : Below wm.heap.size wm w6 := below_grown hg6 (Nat.le_refl _) (fun k hk => by cases hk)
        have hbb := bel_up' HM.out.2.2.2 hb6
        exact ⟨hrg6, own_sm HM.out.2.1 (hb6.block B2 (by have := HM.out.2.2.1; omega)), HI.out.2.2.1.below hbb, hbb, by omega⟩
      clear hrg6 hg6 hs6 hrB hwm hB2e
      try go_frame
      go_loopw [34] (fun _ wx => ∃ (V : List Nat) (left : Lit → Bool) (cnt N2 : Nat) (D2 : DataW Value), Hid (wx.ranges Try.prog 3 hlR Bm rB N D left cnt ∧ Lfs F V left ∧ wx.ownsMap Try.prog 3 hlR B2 N2 D2 ∧ MpD wyV D2 (pvF wyB M ch (st k) F V) ∧ N2 ≤ 2 * V.length ∧ W2 (B + 1) 0 0 wx ∧ Below wr.heap.size wr wx ∧ rB < wx.heap.size)) (fun _ wx => wx.rangeLeft Bm rB)
      case atStart => exact ⟨[], _, _, 0, .map [], H6.out.1, Lfs.start (enc := wyV) (by rw [HFk.out.1]; exact HI.out.2.1), H6.out.2.1, MpD.nil _, by simp, H6.out.2.2⟩
      case round =>
        obtain ⟨V, left, cnt, N2, D2, HR⟩ := hrel
        rename World => wx
        have HMF : Hid (MpD wyV D F) := by rw [HFk.out.1]; exact HI.out.2.1
        have HVl : Hid (V.length ≤ 16) := by
          have h := HR.out.2.1
          have h1 : V.length ≤ (List.range (2 ^ M)).length := nd_lenV h.nd (fun x hx => List.mem_range.2 (HKey.out k x (by rw [← HFk.out.1]; exact h.sub x hx)))
          rw [List.length_range] at h1
          exact Nat.le_trans h1 (Nat.pow_le_pow_right (n := 2) (by omega) hM)
        go_wp2_with (first
          | (at_next; refine next_held (enc := wyV) rfl _ rfl Bm rB N D left cnt F V rfl HR.out.1 HMF.out HR.out.2.1 ?_ ?_)
          | go_in)
        · intro hall
          have HN : Hid (MpD wyV D2 (TF (k + 1))) := by
            refine HR.out.2.2.2.1.congr (fun s' => ?_)
            rw [HSuc.out k, ← HFk.out.1, ← HFk.out.2]
            exact pvF_end wy_mts HR.out.2.1.nd HR.out.2.1.sub hall (fun j hj => HKey.out k j (by rw [← HFk.out.1]; exact hj)) s'
          clear hall
          go_wp2
          go_roundw
          case rel => exact ⟨k + 1, B2, N2, D2, rfl, by go_num, by omega, HR.out.2.2.1, HN.out, HR.out.2.2.2.2.2.1, HI.out.2.2.2.1.trans (HR.out.2.2.2.2.2.2.1.mono (by have := HI.out.2.2.2.1.size; have := HBw.out; omega)), HBB.out, by have := HB2.out; have := HR.out.2.2.2.2.2.2.2; omega⟩
          case measure => simp [RowKit.intOf]; omega
        · intro s ca cb w7 cnt' left' hFs hsV hrg7 hLf7 hlt7 hg7 hs7 hen
          replace hen : (Instr.entry (.pointer (some ⟨rB, 0, none⟩))).run Try.prog w7 = .ok (.tuple #[.int .i64 (s : Nat), .agg #[.int .i64 (ca : Nat), .int .i64 (cb : Nat)]]) w7 := hen
          try simp only [wyV]
          have hs16 : s < 16 := Nat.lt_of_lt_of_le (HKey.out k s (by rw [← HFk.out.1, hFs]; intro q; cases q)) (Nat.pow_le_pow_right (n := 2) (by omega) hM)
          have HFs : Hid (F s = some (ca, cb)) := hFs
          have H7 : Hid (w7.ranges Try.prog 3 hlR Bm rB N D left' cnt' ∧ Lfs F (V ++ [s]) left' ∧ w7.ownsMap Try.prog 3 hlR B2 N2 D2 ∧ W2 (B + 1) 0 0 w7 ∧ Below wr.heap.size wr w7 ∧ rB < w7.heap.size ∧ cnt' < cnt) := by
            have hB := HB2.out
            have hr := HR.out
            exact ⟨hrg7, hLf7, own_sm hr.2.2.1 (hg7.block B2 (by omega) (by intro c; have := Option.some.inj c; omega)), (hg7.block (B + 1) (lt_of_block hr.2.2.2.2.2.1) (by intro c; have := Option.some.inj c; have := HBB.out; omega)).trans hr.2.2.2.2.2.1, hr.2.2.2.2.2.2.1.grown hg7 hr.2.2.2.2.2.2.1.size (fun j hj => by have := Option.some.inj hj; omega), by omega, hlt7⟩
          clear hFs hsV hrg7 hLf7 hlt7 hg7 hs7
          obtain ⟨bW, hbW⟩ : ∃ bW, bW = w7.heap.size := ⟨_, rfl⟩
          obtain ⟨w8, hw8⟩ : ∃ w8, w8 = w7.alloc (.cells #[.int .i64 (ca : Nat), .int .i64 (cb : Nat)] 59) := ⟨_, rfl⟩
          have H8 : Hid (w8.ranges Try.prog 3 hlR Bm rB N D left' cnt' ∧ w8.ownsMap Try.prog 3 hlR B2 N2 D2 ∧ MpD wyV D2 (pbF wyB M ch (st k) F V s 0) ∧ N2 ≤ 2 * V.length + 0 ∧ W2 (B + 1) 0 0 w8 ∧ W2 bW ca cb w8 ∧ Below wr.heap.size wr w8 ∧ bW < w8.heap.size ∧ Bm < wr.heap.size ∧ B2 = wr.heap.size ∧ rB = wr.heap.size + 1 ∧ rB < bW) := by
            have hb8 : Below w7.heap.size w7 w8 := by rw [hw8]; exact (Below.refl _ _).alloc (Nat.le_refl _) _
            have h7 := H7.out
            have hz := h7.2.2.2.2.1.size
            refine ⟨rng_sm h7.1 (hb8.block Bm (by have := HI.out.2.2.2.2.2; omega)) (hb8.block rB h7.2.2.2.2.2.1), own_sm h7.2.2.1 (hb8.block B2 (by have := HB2.out; omega)), HR.out.2.2.2.1.congr (fun s' => (pbF_zero V s s').symm), HR.out.2.2.2.2.1, h7.2.2.2.1.below hb8, by rw [hw8, hbW]; exact W2.new _ _ _, bel_up' h7.2.2.2.2.1 hb8, by rw [hw8, hbW]; simp, HI.out.2.2.2.2.2, HB2.out.1, HB2.out.2, by rw [hbW]; exact h7.2.2.2.2.2.1⟩
          go_wp2_with fail
          rw [← hw8, ← hbW]
          clear hw8 hbW hen
          refine (HCh.out w8).mono ?_
          rintro e w9 ⟨rfl, hw⟩
          have hw := hw.symm
          subst hw
          go_wp2
          go_loopw [42] (fun vb wy => ∃ (bb N2 : Nat) (D2 : DataW Value), vb = .int .i64 (bb : Nat) ∧ bb ≤ ch ∧ Hid (wy.ranges Try.prog 3 hlR Bm rB N D left' cnt' ∧ wy.ownsMap Try.prog 3 hlR B2 N2 D2 ∧ MpD wyV D2 (pbF wyB M ch (st k) F V s bb) ∧ N2 ≤ 2 * V.length + bb ∧ W2 (B + 1) 0 0 wy ∧ W2 bW ca cb wy ∧ Below wr.heap.size wr wy ∧ bW < wy.heap.size ∧ Bm < wr.heap.size ∧ B2 = wr.heap.size ∧ rB = wr.heap.size + 1 ∧ rB < bW)) (fun vb _ => ch - (RowKit.intOf vb).toNat)
          case atStart => exact ⟨0, N2, D2, rfl, by omega, H8.out⟩
          case round =>
            obtain ⟨bb, N2, D2, rfl, hbb, HY⟩ := hrel
            rename World => wy
            by_cases hbl : bb < ch
            · have hblb : (bb : Int) < (ch : Int) := by omega
              obtain ⟨x, hx⟩ : ∃ x, x = 2 * s + bb := ⟨_, rfl⟩
              have hx32 : x < 32 := by omega
              have hor : bits BinOp.or IntKind.i64 ((s : Int) * 2) (bb : Int) = (x : Int) := by
                have e : (s : Int) * 2 = ((s * 2 : Nat) : Int) := by omega
                rw [e, or_i64n (by omega) (by omega), two_or (by omega), hx]
              obtain ⟨PW, hPW⟩ : ∃ PW, PW = 2 ^ M := ⟨_, rfl⟩
              have hPW16 : PW ≤ 16 := by rw [hPW]; exact Nat.pow_le_pow_right (n := 2) (by omega) hM
              have hPW1 : 1 ≤ PW := by rw [hPW]; exact Nat.pow_pos (by omega)
              have hpw : (2 : Int) ^ M = (PW : Int) := by rw [hPW]; simp
              have hpww : IntKind.i64.wrap (PW : Int) = (PW : Int) := wrap_to rfl (by omega)
              obtain ⟨P1, hP1⟩ : ∃ P1, P1 = PW - 1 := ⟨_, rfl⟩
              have hps : (PW : Int) - 1 = (P1 : Int) := by omega
              have hpsw : IntKind.i64.wrap (P1 : Int) = (P1 : Int) := wrap_to rfl (by omega)
              obtain ⟨ts, hto⟩ : ∃ ts, ts = x % PW := ⟨_, rfl⟩
              have hto16 : ts < 16 := by rw [hto]; exact Nat.lt_of_lt_of_le (Nat.mod_lt _ (by omega)) hPW16
              have hand : bits BinOp.and IntKind.i64 (x : Int) (P1 : Int) = (ts : Int) := by rw [hP1, hto, hPW]; exact low_and (by omega) hM
              obtain ⟨pp, hpp⟩ : ∃ pp, pp = st k x (ca, cb) := ⟨_, rfl⟩
              obtain ⟨pa, pb⟩ := pp
              have HPs : Hid ((pa, pb) = st k (2 * s + bb) (ca, cb)) := by rw [← hx]; exact hpp
              have HTv : Hid (ts = (2 * s + bb) % 2 ^ M) := by show ts = _; rw [hto, hx, hPW]
              have HSt : Hid (∀ wz, Below wy.heap.size wy wz → Calls Try.prog 35 #[.int .i64 (k : Nat), .int .i64 (x : Nat), .agg #[.int .i64 (ca : Nat), .int .i64 (cb : Nat)], .pointer (some ⟨b1, 0, none⟩), .pointer (some ⟨b2, 0, none⟩), .pointer (some ⟨b3, 0, none⟩)] wz fun e w' => e = .returned (.agg #[.int .i64 (pa : Nat), .int .i64 (pb : Nat)]) ∧ Below wz.heap.size wz w') := fun wz hb => by
                have h := HS.out k x (ca, cb) wz (by have := HT.out; omega) (by rw [hx, Nat.pow_succ, ← hPW]; have := HKey.out k s (by rw [← HFk.out.1, HFs.out]; intro q; cases q); omega) (HF.out.1 k s (ca, cb) (by have := HT.out; omega) (by rw [← HFk.out.1]; exact HFs.out)) (by have hbw := HI.out.2.2.2.1; rw [HBw.out] at hbw; exact bel_up' (bel_up' hbw HY.out.2.2.2.2.2.2.1) hb)
                rw [← hpp] at h
                exact h
              clear hx hPW hP1 hto hpp
              go_upto_region 13 with fail
              go_cut [18, 19] (fun v18 v19 wz => ∃ bN, v18 = .pointer (some ⟨bN, 0, none⟩) ∧ v19 = .int .i64 (ts : Nat) ∧ Hid (W2 bN pa pb wz ∧ Below wy.heap.size wy wz ∧ wy.heap.size ≤ bN))
              case first =>
                refine wp_region_noPanic ?_
                have hS0 : W2 bW ca cb wy.drew := HY.out.2.2.2.2.2.1
                refine wp_region_L (S := W2 bW ca cb) [] (by kernel_rfl) ?_
                refine wpAnyL_take (i := 0) (v := ?_) (by rw [List.getElem?_toArray]; rfl) (by decide +kernel) (by decide +kernel) (by decide +kernel) (by decide +kernel) (by decide +kernel) (fun _ _ _ h => h) hS0 (Or.inl ⟨by rfl, ?_⟩) ?_
                rotate_left
                · intro wz hSz; have z0 := W2.c0 hSz; have z1 := W2.c1 hSz; go_simp; first | done | with_reducible rfl | (simp [hpw, hps]; first | done | with_reducible rfl)
                try simp only [Act.put, List.setIfInBounds_toArray, List.set_cons_zero, List.set_cons_succ]
                refine wpAnyL_take (i := 1) (v := ?_) (by rw [List.getElem?_toArray]; rfl) (by decide +kernel) (by decide +kernel) (by decide +kernel) (by decide +kernel) (by decide +kernel) (fun _ _ _ h => h) hS0 (Or.inl ⟨by rfl, ?_⟩) ?_
                rotate_left
                · intro wz hSz; have z0 := W2.c0 hSz; have z1 := W2.c1 hSz; go_simp; first | done | with_reducible rfl | (simp [hpw, hps]; first | done | with_reducible rfl)
                try simp only [Act.put, List.setIfInBounds_toArray, List.set_cons_zero, List.set_cons_succ]
                refine wpAnyL_take (i := 2) (v := ?_) (by rw [List.getElem?_toArray]; rfl) (by decide +kernel) (by decide +kernel) (by decide +kernel) (by decide +kernel) (by decide +kernel) (fun _ _ _ h => h) hS0 (Or.inl ⟨by rfl, ?_⟩) ?_
                rotate_left
                · intro wz hSz; have z0 := W2.c0 hSz; have z1 := W2.c1 hSz; go_simp; first | done | with_reducible rfl | (simp [hpw, hps]; first | done | with_reducible rfl)
                try simp only [Act.put, List.setIfInBounds_toArray, List.set_cons_zero, List.set_cons_succ]
                refine wpAnyL_take (i := 3) (v := ?_) (by rw [List.getElem?_toArray]; rfl) (by decide +kernel) (by decide +kernel) (by decide +kernel) (by decide +kernel) (by decide +kernel) (fun _ _ _ h => h) hS0 (Or.inl ⟨by rfl, ?_⟩) ?_
                rotate_left
                · intro wz hSz; have z0 := W2.c0 hSz; have z1 := W2.c1 hSz; go_simp; first | done | with_reducible rfl | (simp [hpw, hps]; first | done | with_reducible rfl)
                try simp only [Act.put, List.setIfInBounds_toArray, List.set_cons_zero, List.set_cons_succ]
                refine wpAnyL_take (i := 5) (v := ?_) (by rw [List.getElem?_toArray]; rfl) (by decide +kernel) (by decide +kernel) (by decide +kernel) (by decide +kernel) (by decide +kernel) (fun _ _ _ h => h) hS0 (Or.inl ⟨by rfl, ?_⟩) ?_
                rotate_left
                · intro wz hSz; have z0 := W2.c0 hSz; have z1 := W2.c1 hSz; go_simp; first | done | with_reducible rfl | (simp [hpw, hps]; first | done | with_reducible rfl)
                try simp only [Act.put, List.setIfInBounds_toArray, List.set_cons_zero, List.set_cons_succ]
                refine wpAnyL_take (i := 6) (v := ?_) (by rw [List.getElem?_toArray]; rfl) (by decide +kernel) (by decide +kernel) (by decide +kernel) (by decide +kernel) (by decide +kernel) (fun _ _ _ h => h) hS0 (Or.inl ⟨by rfl, ?_⟩) ?_
                rotate_left
                · intro wz hSz; have z0 := W2.c0 hSz; have z1 := W2.c1 hSz; go_simp; first | done | with_reducible rfl | (simp [hpw, hps]; first | done | with_reducible rfl)
                try simp only [Act.put, List.setIfInBounds_toArray, List.set_cons_zero, List.set_cons_succ]
                refine wpAnyL_take (i := 7) (v := ?_) (by rw [List.getElem?_toArray]; rfl) (by decide +kernel) (by decide +kernel) (by decide +kernel) (by decide +kernel) (by decide +kernel) (fun _ _ _ h => h) hS0 (Or.inl ⟨by rfl, ?_⟩) ?_
                rotate_left
                · intro wz hSz; have z0 := W2.c0 hSz; have z1 := W2.c1 hSz; go_simp; first | done | with_reducible rfl | (simp [hpw, hps]; first | done | with_reducible rfl)
                try simp only [Act.put, List.setIfInBounds_toArray, List.set_cons_zero, List.set_cons_succ]
                refine wpAnyL_take (i := 8) (v := ?_) (by rw [List.getElem?_toArray]; rfl) (by decide +kernel) (by decide +kernel) (by decide +kernel) (by decide +kernel) (by decide +kernel) (fun _ _ _ h => h) hS0 (Or.inl ⟨by rfl, ?_⟩) ?_
                rotate_left
                · intro wz hSz; have z0 := W2.c0 hSz; have z1 := W2.c1 hSz; go_simp; first | done | with_reducible rfl | (simp [hpw, hps]; first | done | with_reducible rfl)
                try simp only [Act.put, List.setIfInBounds_toArray, List.set_cons_zero, List.set_cons_succ]
                refine wpAnyL_take (i := 9) (v := ?_) (by rw [List.getElem?_toArray]; rfl) (by decide +kernel) (by decide +kernel) (by decide +kernel) (by decide +kernel) (by decide +kernel) (fun _ _ _ h => h) hS0 (Or.inl ⟨by rfl, ?_⟩) ?_
                rotate_left
                · intro wz hSz; have z0 := W2.c0 hSz; have z1 := W2.c1 hSz; go_simp; first | done | with_reducible rfl | (simp [hpw, hps]; first | done | with_reducible rfl)
                try simp only [Act.put, List.setIfInBounds_toArray, List.set_cons_zero, List.set_cons_succ]
                refine wpAnyL_two (i := 4) (k := 10) (by kernel_rfl) (by rw [List.getElem?_toArray]; rfl) (by rw [List.getElem?_toArray]; rfl) (fun K hK => ?_) (fun K hK => ?_)
                · have HK : Hid _ := hK
                  clear hK
                  go_simp
                  refine (HSt.out wy.drew (Below.refl wy.heap.size wy).drew).mono ?_
                  rintro e w4 ⟨rfl, hb4⟩
                  have H4 : Hid (Below wy.heap.size wy w4 ∧ W2 bW ca cb w4) := ⟨bel_up' (Below.refl wy.heap.size wy).drew hb4, (W2.below hS0 hb4)⟩
                  clear hb4
                  refine HK.out _ _ (fun _ => H4.out.2) ?_
                  clear HK K
                  try simp only [Act.put, List.setIfInBounds_toArray, List.set_cons_zero, List.set_cons_succ]
                  refine wpAnyL_one (i := 10) (by kernel_rfl) (by rw [List.getElem?_toArray]; rfl) (fun K hK => ?_)
                  have HK : Hid _ := hK
                  clear hK
                  go_simp
                  obtain ⟨wN, hwN⟩ : ∃ wN, wN = w4.alloc (.cells #[.int .i64 0, .int .i64 0] 59) := ⟨_, rfl⟩
                  obtain ⟨bN, hbN⟩ : ∃ bN, bN = w4.heap.size := ⟨_, rfl⟩
                  have HN : Hid (W2 bN 0 0 wN ∧ W2 bW ca cb wN ∧ Below wy.heap.size wy wN ∧ wy.heap.size ≤ bN) := by
                    have := H4.out.1.size
                    rw [hwN, hbN]
                    exact ⟨W2.new 0 0 w4, H4.out.2.alloc _, bel_up' H4.out.1 ((Below.refl _ _).alloc (Nat.le_refl _) _), this⟩
                  rw [← hwN, ← hbN]
                  clear hwN hbN
                  refine HK.out _ _ (fun _ => HN.out.2.1) ?_
                  clear HK K
                  try simp only [Act.put, List.setIfInBounds_toArray, List.set_cons_zero, List.set_cons_succ]
                  refine wpAnyL_one (i := 11) (by kernel_rfl) (by rw [List.getElem?_toArray]; rfl) (fun K hK => ?_)
                  have HK : Hid _ := hK
                  clear hK
                  have m0 := HN.out.1.c0
                  have m1 := HN.out.1.c1
                  have mf0 := HN.out.1.free 0
                  have mf1 := HN.out.1.free 1
                  have n1 := (HN.out.1.put0 (pa : Int)).c1
                  have nf1 := (HN.out.1.put0 (pa : Int)).free 1
                  go_simp
                  obtain ⟨wS, hwS⟩ : ∃ wS, wS = (wN.setCell ⟨bN, 0, none⟩ (.int .i64 (pa : Nat))).setCell ⟨bN, 1, none⟩ (.int .i64 (pb : Nat)) := ⟨_, rfl⟩
                  have HS5 : Hid (W2 bN pa pb wS ∧ W2 bW ca cb wS ∧ Below wy.heap.size wy wS) := by
                    rw [hwS]
                    have hbn := HN.out.2.2.2
                    have hbl := HY.out.2.2.2.2.2.2.2.1
                    exact ⟨(HN.out.1.put0 _).put1 _, (HN.out.2.1.oth (by omega) _ _).oth (by omega) _ _, (HN.out.2.2.1.setCell (by show wy.heap.size ≤ bN; omega) _).setCell (by show wy.heap.size ≤ bN; omega) _⟩
                  rw [← hwS]
                  clear hwS m0 m1 mf0 mf1 n1 nf1
                  refine HK.out _ _ (fun _ => HS5.out.2.1) ?_
                  clear HK K
                  try simp only [Act.put, List.setIfInBounds_toArray, List.set_cons_zero, List.set_cons_succ]
                  refine wpAnyL_one (i := 12) (by kernel_rfl) (by rw [List.getElem?_toArray]; rfl) (fun K hK => ?_)
                  have HK : Hid _ := hK
                  clear hK
                  go_simp
                  refine HK.out _ _ (fun _ => HS5.out.2.1) ?_
                  clear HK K
                  try simp only [Act.put, List.setIfInBounds_toArray, List.set_cons_zero, List.set_cons_succ]
                  refine wpAnyL_done (by kernel_rfl) (NoPanic.normal ?_)
                  go_wp2
                  go_meet
                  case rel => exact ⟨bN, rfl, by first | rfl | rw [hand], HS5.out.1, HS5.out.2.2, HN.out.2.2.2⟩
                · have HK : Hid _ := hK
                  clear hK
                  go_simp
                  obtain ⟨wA, hwA⟩ : ∃ wA, wA = wy.drew.alloc (.cells #[.int .i64 0, .int .i64 0] 59) := ⟨_, rfl⟩
                  have hwA' : (wy.alloc (.cells #[.int .i64 0, .int .i64 0] 59)).drew = wA := by rw [hwA]; rfl
                  obtain ⟨bN, hbN⟩ : ∃ bN, bN = wy.heap.size := ⟨_, rfl⟩
                  have HA : Hid (W2 bN 0 0 wA ∧ W2 bW ca cb wA ∧ Below wy.heap.size wy wA) := by
                    rw [hwA, hbN]
                    exact ⟨W2.new 0 0 wy.drew, W2.alloc hS0 _, (Below.refl _ _).drew.alloc (Nat.le_refl _) _⟩
                  first | rw [hwA'] | rw [← hwA]
                  try rw [← hbN]
                  clear hwA hwA'
                  have HbN : Hid (bN = wy.heap.size) := hbN
                  clear hbN
                  refine HK.out _ _ (fun _ => HA.out.2.1) ?_
                  clear HK K
                  try simp only [Act.put, List.setIfInBounds_toArray, List.set_cons_zero, List.set_cons_succ]
                  refine wpAnyL_one (i := 4) (by kernel_rfl) (by rw [List.getElem?_toArray]; rfl) (fun K hK => ?_)
                  have HK : Hid _ := hK
                  clear hK
                  go_simp
                  refine (HSt.out wA HA.out.2.2).mono ?_
                  rintro e wN ⟨rfl, hb4⟩
                  have HN : Hid (W2 bN 0 0 wN ∧ W2 bW ca cb wN ∧ Below wy.heap.size wy wN ∧ wy.heap.size ≤ bN) := ⟨HA.out.1.below hb4, HA.out.2.1.below hb4, bel_up' HA.out.2.2 hb4, by rw [HbN.out]; exact Nat.le_refl _⟩
                  clear hb4
                  refine HK.out _ _ (fun _ => HN.out.2.1) ?_
                  clear HK K
                  try simp only [Act.put, List.setIfInBounds_toArray, List.set_cons_zero, List.set_cons_succ]
                  refine wpAnyL_one (i := 11) (by kernel_rfl) (by rw [List.getElem?_toArray]; rfl) (fun K hK => ?_)
                  have HK : Hid _ := hK
                  clear hK
                  have m0 := HN.out.1.c0
                  have m1 := HN.out.1.c1
                  have mf0 := HN.out.1.free 0
                  have mf1 := HN.out.1.free 1
                  have n1 := (HN.out.1.put0 (pa : Int)).c1
                  have nf1 := (HN.out.1.put0 (pa : Int)).free 1
                  go_simp
                  obtain ⟨wS, hwS⟩ : ∃ wS, wS = (wN.setCell ⟨bN, 0, none⟩ (.int .i64 (pa : Nat))).setCell ⟨bN, 1, none⟩ (.int .i64 (pb : Nat)) := ⟨_, rfl⟩
                  have HS5 : Hid (W2 bN pa pb wS ∧ W2 bW ca cb wS ∧ Below wy.heap.size wy wS) := by
                    rw [hwS]
                    have hbn := HN.out.2.2.2
                    have hbl := HY.out.2.2.2.2.2.2.2.1
                    exact ⟨(HN.out.1.put0 _).put1 _, (HN.out.2.1.oth (by omega) _ _).oth (by omega) _ _, (HN.out.2.2.1.setCell (by show wy.heap.size ≤ bN; omega) _).setCell (by show wy.heap.size ≤ bN; omega) _⟩
                  rw [← hwS]
                  clear hwS m0 m1 mf0 mf1 n1 nf1
                  refine HK.out _ _ (fun _ => HS5.out.2.1) ?_
                  clear HK K
                  try simp only [Act.put, List.setIfInBounds_toArray, List.set_cons_zero, List.set_cons_succ]
                  refine wpAnyL_one (i := 12) (by kernel_rfl) (by rw [List.getElem?_toArray]; rfl) (fun K hK => ?_)
                  have HK : Hid _ := hK
                  clear hK
                  go_simp
                  refine HK.out _ _ (fun _ => HS5.out.2.1) ?_
                  clear HK K
                  try simp only [Act.put, List.setIfInBounds_toArray, List.set_cons_zero, List.set_cons_succ]
                  refine wpAnyL_done (by kernel_rfl) (NoPanic.normal ?_)
                  go_wp2
                  go_meet
                  case rel => exact ⟨bN, rfl, by first | rfl | rw [hand], HS5.out.1, HS5.out.2.2, HN.out.2.2.2⟩
              case rest =>
                rename World => wz
                obtain ⟨bN, rfl, rfl, HZ⟩ := hcut
                clear HSt
                cases hTo : pbF wyB M ch (st k) F V s bb ts with
                | some tt =>
                  obtain ⟨ta, tb⟩ := tt
                  have HTo : Hid (pbF wyB M ch (st k) F V s bb ts = some (ta, tb)) := hTo
                  obtain ⟨qq, hqq⟩ : ∃ qq, qq = wyB (ta, tb) (pa, pb) := ⟨_, rfl⟩
                  obtain ⟨qa, qb⟩ := qq
                  have HQ : Hid ((qa, qb) = wyB (ta, tb) (pa, pb)) := hqq
                  clear hTo hqq
                  obtain ⟨wc, hwc⟩ : ∃ wc, wc = wz.alloc (.cells #[.int .i64 (ta : Nat), .int .i64 (tb : Nat)] 59) := ⟨_, rfl⟩
                  obtain ⟨bC, hbC⟩ : ∃ bC, bC = wz.heap.size := ⟨_, rfl⟩
                  have HC : Hid (W2 bC (ta : Nat) (tb : Nat) wc ∧ W2 bN pa pb wc ∧ Below wy.heap.size wy wc ∧ bN < bC) := by
                    have h1 := lt_of_block HZ.out.1
                    rw [hwc, hbC]
                    exact ⟨W2.new _ _ wz, HZ.out.1.alloc _, bel_up' HZ.out.2.1 ((Below.refl _ _).alloc (Nat.le_refl _) _), h1⟩
                  have HOz : Hid (wz.ownsMap Try.prog 3 hlR B2 N2 D2) := own_sm HY.out.2.1 (HZ.out.2.1.block B2 (by have := HY.out.2.2.2.2.2.2.2; omega))
                  have z0 := HZ.out.1.c0
                  have z1 := HZ.out.1.c1
                  have hbz := lt_of_block HZ.out.1
                  go_wp2_with (first
                    | (at_lookup; refine look_hyes (enc := wyV) rfl _ _ 78 59 rfl tv_wmap (tv_wzero _) B2 N2 D2 _ rfl HOz.out HY.out.2.2.1 ts (by omega) rfl (ta, tb) HTo.out ?_; try simp only [wyV]))
                  rw [← hwc]
                  try rw [← hbC]
                  clear hwc hbC
                  have HBt : Hid (Calls Try.prog 38 #[.agg #[.int .i64 (ta : Nat), .int .i64 (tb : Nat)], .agg #[.int .i64 (pa : Nat), .int .i64 (pb : Nat)]] wc fun e w' => e = .returned (.agg #[.int .i64 (qa : Nat), .int .i64 (qb : Nat)]) ∧ Below wc.heap.size wc w') := by
                    have h := better_any (ta, tb) (pa, pb) wc
                    rw [← HQ.out] at h
                    exact h
                  refine HBt.out.mono ?_
                  rintro e wd ⟨rfl, hbd⟩
                  clear z0 z1 hbz
                  obtain ⟨we, hwe⟩ : ∃ we, we = (wd.setCell ⟨bN, 0, none⟩ (.int .i64 (qa : Nat))).setCell ⟨bN, 1, none⟩ (.int .i64 (qb : Nat)) := ⟨_, rfl⟩
                  have hND := HC.out.2.1.below hbd
                  have HE : Hid (W2 bN qa qb we ∧ Below wy.heap.size wy we) := by
                    rw [hwe]
                    have hbn := HZ.out.2.2
                    exact ⟨(hND.put0 _).put1 _, ((bel_up' HC.out.2.2.1 hbd).setCell (by show wy.heap.size ≤ bN; omega) _).setCell (by show wy.heap.size ≤ bN; omega) _⟩
                  have m0 := hND.c0
                  have m1 := hND.c1
                  have mf0 := hND.free 0
                  have mf1 := hND.free 1
                  have n1 := (hND.put0 (qa : Int)).c1
                  have nf1 := (hND.put0 (qa : Int)).free 1
                  have e0 := HE.out.1.c0
                  have e1 := HE.out.1.c1
                  rw [hwe] at e0 e1
                  clear hbd hND
                  have HOe : Hid (we.ownsMap Try.prog 3 hlR B2 N2 D2) := own_sm HY.out.2.1 (HE.out.2.block B2 (by have := HY.out.2.2.2.2.2.2.2; omega))
                  rw [hwe] at HOe
                  go_wp2_with (first
                    | (at_mapUpdate; refine wpList_mapUpdate_own _ rfl _ _ _ 78 rfl 3 59 tv_law tv_wmap hlR B2 N2 D2 rfl HOe.out (by have := HY.out.2.2.2.1; have := HVl.out; unfold maxLen; omega) _ _ _ rfl rfl (tv_key (k := ts) (by omega)) (.held (.agg #[.int .i64 (qa : Nat), .int .i64 (qb : Nat)])) [] rfl ?_; intro wf hownf hgf)
                    | go_in)
                  rw [← hwe] at hgf
                  clear hwe m0 m1 mf0 mf1 n1 nf1 e0 e1 HOe
                  have hB2 : B2 < wy.heap.size := by have := HY.out.2.2.2.2.2.2.2; omega
                  have hwyl : ∀ i, i < wy.heap.size → i ≠ B2 → wf.heap[i]? = wy.heap[i]? := fun i hi hne => by
                    have hs := HE.out.2.size
                    exact (hgf.block i (by omega) (by intro c; exact hne (Option.some.inj c))).trans (HE.out.2.block i hi)
                  have HNx : Hid (wf.ranges Try.prog 3 hlR Bm rB N D left' cnt' ∧ wf.ownsMap Try.prog 3 hlR B2 (N2 + 1) (D2.put (.int .i64 (ts : Nat)) (.held (.agg #[.int .i64 (qa : Nat), .int .i64 (qb : Nat)]))) ∧ MpD wyV (D2.put (.int .i64 (ts : Nat)) (.held (.agg #[.int .i64 (qa : Nat), .int .i64 (qb : Nat)]))) (pbF wyB M ch (st k) F V s (bb + 1)) ∧ N2 + 1 ≤ 2 * V.length + (bb + 1) ∧ W2 (B + 1) 0 0 wf ∧ W2 bW ca cb wf ∧ Below wr.heap.size wr wf ∧ bW < wf.heap.size ∧ Bm < wr.heap.size ∧ B2 = wr.heap.size ∧ rB = wr.heap.size + 1 ∧ rB < bW) := by
                    have hy := HY.out
                    have hs := hgf.size
                    have hs2 := HE.out.2.size
                    obtain ⟨y1, y2, y3, y4, y5, y6, y7, y8, y9, y10, y11, y12⟩ := hy
                    refine ⟨rng_sm y1 (hwyl Bm (by have := y7.size; omega) (by omega)) (hwyl rB (by omega) (by omega)), hownf, (y3.put ts (qa, qb)).congr (fun j => ?_), by omega, (hwyl (B + 1) (by have := lt_of_block y5; omega) (by have := HBB.out; omega)).trans y5, (hwyl bW (by omega) (by omega)).trans y6, y7.trans ⟨hgf.os.trans HE.out.2.os, hgf.tape.trans HE.out.2.tape, hgf.output.trans HE.out.2.output, by omega, fun i hi => hwyl i (by have := y7.size; omega) (by omega)⟩, by omega, y9, y10, y11, y12⟩
                    rw [pbF_put wy_mts V HFs.out j]
                    rw [← HTv.out]
                    by_cases ej : j = ts
                    · rw [if_pos ej, if_pos ej, ej, HTo.out, ← HPs.out]; show some (qa, qb) = some (wyB (ta, tb) (pa, pb)); rw [← HQ.out]
                    · rw [if_neg ej, if_neg ej]
                  clear hownf hgf hwyl
                  go_roundw
                  case rel => exact ⟨bb + 1, N2 + 1, _, by go_num, by omega, HNx.out⟩
                  case measure => simp [RowKit.intOf]; omega
                | none =>
                  have HTo : Hid (pbF wyB M ch (st k) F V s bb ts = none) := hTo
                  clear hTo
                  obtain ⟨wc, hwc⟩ : ∃ wc, wc = wz.alloc (.cells #[.int .i64 0, .int .i64 0] 59) := ⟨_, rfl⟩
                  obtain ⟨bC, hbC⟩ : ∃ bC, bC = wz.heap.size := ⟨_, rfl⟩
                  have HC : Hid (W2 bC 0 0 wc ∧ W2 bN pa pb wc ∧ Below wy.heap.size wy wc ∧ bN < bC) := by
                    have h1 := lt_of_block HZ.out.1
                    rw [hwc, hbC]
                    exact ⟨W2.new _ _ wz, HZ.out.1.alloc _, bel_up' HZ.out.2.1 ((Below.refl _ _).alloc (Nat.le_refl _) _), h1⟩
                  have HOz : Hid (wz.ownsMap Try.prog 3 hlR B2 N2 D2) := own_sm HY.out.2.1 (HZ.out.2.1.block B2 (by have := HY.out.2.2.2.2.2.2.2; omega))
                  have HE : Hid (W2 bN pa pb wc ∧ Below wy.heap.size wy wc) := ⟨HC.out.2.1, HC.out.2.2.1⟩
                  have HOe : Hid (wc.ownsMap Try.prog 3 hlR B2 N2 D2) := own_sm HY.out.2.1 (HE.out.2.block B2 (by have := HY.out.2.2.2.2.2.2.2; omega))
                  rw [hwc] at HOe
                  have z0 := HZ.out.1.c0
                  have z1 := HZ.out.1.c1
                  have hbz := lt_of_block HZ.out.1
                  go_wp2_with (first
                    | (at_lookup; refine look_hno (enc := wyV) rfl _ _ 78 59 rfl tv_wmap (tv_wzero _) B2 N2 D2 _ rfl HOz.out HY.out.2.2.1 ts (by omega) rfl HTo.out ?_)
                    | (at_mapUpdate; refine wpList_mapUpdate_own _ rfl _ _ _ 78 rfl 3 59 tv_law tv_wmap hlR B2 N2 D2 rfl HOe.out (by have := HY.out.2.2.2.1; have := HVl.out; unfold maxLen; omega) _ _ _ rfl rfl (tv_key (k := ts) (by omega)) (.held (.agg #[.int .i64 (pa : Nat), .int .i64 (pb : Nat)])) [] rfl ?_; intro wf hownf hgf)
                    | go_in)
                  rw [← hwc] at hgf
                  clear hwc hbC z0 z1 hbz HOe
                  have hB2 : B2 < wy.heap.size := by have := HY.out.2.2.2.2.2.2.2; omega
                  have hwyl : ∀ i, i < wy.heap.size → i ≠ B2 → wf.heap[i]? = wy.heap[i]? := fun i hi hne => by
                    have hs := HE.out.2.size
                    exact (hgf.block i (by omega) (by intro c; exact hne (Option.some.inj c))).trans (HE.out.2.block i hi)
                  have HNx : Hid (wf.ranges Try.prog 3 hlR Bm rB N D left' cnt' ∧ wf.ownsMap Try.prog 3 hlR B2 (N2 + 1) (D2.put (.int .i64 (ts : Nat)) (.held (.agg #[.int .i64 (pa : Nat), .int .i64 (pb : Nat)]))) ∧ MpD wyV (D2.put (.int .i64 (ts : Nat)) (.held (.agg #[.int .i64 (pa : Nat), .int .i64 (pb : Nat)]))) (pbF wyB M ch (st k) F V s (bb + 1)) ∧ N2 + 1 ≤ 2 * V.length + (bb + 1) ∧ W2 (B + 1) 0 0 wf ∧ W2 bW ca cb wf ∧ Below wr.heap.size wr wf ∧ bW < wf.heap.size ∧ Bm < wr.heap.size ∧ B2 = wr.heap.size ∧ rB = wr.heap.size + 1 ∧ rB < bW) := by
                    have hy := HY.out
                    have hs := hgf.size
                    have hs2 := HE.out.2.size
                    obtain ⟨y1, y2, y3, y4, y5, y6, y7, y8, y9, y10, y11, y12⟩ := hy
                    refine ⟨rng_sm y1 (hwyl Bm (by have := y7.size; omega) (by omega)) (hwyl rB (by omega) (by omega)), hownf, (y3.put ts (pa, pb)).congr (fun j => ?_), by omega, (hwyl (B + 1) (by have := lt_of_block y5; omega) (by have := HBB.out; omega)).trans y5, (hwyl bW (by omega) (by omega)).trans y6, y7.trans ⟨hgf.os.trans HE.out.2.os, hgf.tape.trans HE.out.2.tape, hgf.output.trans HE.out.2.output, by omega, fun i hi => hwyl i (by have := y7.size; omega) (by omega)⟩, by omega, y9, y10, y11, y12⟩
                    rw [pbF_put wy_mts V HFs.out j]
                    rw [← HTv.out]
                    by_cases ej : j = ts
                    · rw [if_pos ej, if_pos ej, ej, HTo.out, ← HPs.out]; exact rfl
                    · rw [if_neg ej, if_neg ej]
                  clear hownf hgf hwyl
                  go_roundw
                  case rel => exact ⟨bb + 1, N2 + 1, _, by go_num, by omega, HNx.out⟩
                  case measure => simp [RowKit.intOf]; omega
            · have hblb : ¬ (bb : Int) < (ch : Int) := by omega
              have hbe : bb = ch := by omega
              subst hbe
              go_wp2
              go_roundw
              case rel => exact ⟨V ++ [s], left', cnt', N2, D2, HY.out.1, H7.out.2.1, HY.out.2.1, HY.out.2.2.1.congr (fun s' => pbF_full V s s'), by rw [List.length_append, List.length_singleton]; have := HY.out.2.2.2.1; omega, HY.out.2.2.2.2.1, HY.out.2.2.2.2.2.2.1, by have := HY.out; omega⟩
              case measure => rw [HY.out.1.left_eq, HR.out.1.left_eq]; exact H7.out.2.2.2.2.2.2
    · have hkb : ¬ (k : Int) < (T : Int) := by omega
      have hke : k = T := by omega
      have HTe : Hid (TF T 0 = some ar) := by rw [HT.out]; exact HF.out.2
      obtain ⟨ra, rb⟩ := ar
      have hD : MpD wyV D (TF T) := by rw [← hke]; exact HI.out.2.1
      obtain ⟨v, ps, hrun, hv⟩ := HI.out.1.lookup tv_law tv_wmap (tv_wzero wr) (show hlR (.agg #[.int .i64 0, .int .i64 0]) = some (.held (.agg #[.int .i64 0, .int .i64 0]), []) from rfl) (tv_key (k := 0) (by omega))
      have hve : v = .agg #[.int .i64 (ra : Nat), .int .i64 (rb : Nat)] := by
        have e1 := hD.at' 0 (ra, rb) HTe.out (.held (.agg #[.int .i64 0, .int .i64 0]))
        rw [e1] at hv
        have e2 : (DataW.held v : DataW Value) = .held (wyV (ra, rb)) := (Prod.mk.inj (Option.some.inj hv)).1
        cases e2; rfl
      subst hve
      replace hrun : (Instr.lookup 78 (.map (some Bm)) (.int .i64 0) false).run Try.prog wr = .ok (.agg #[.int .i64 (ra : Nat), .int .i64 (rb : Nat)]) wr := hrun
      have hR := HI.out.2.2.1
      obtain ⟨we, hwe⟩ : ∃ we, we = (wr.setCell ⟨B + 1, 0, none⟩ (.int .i64 (ra : Nat))).setCell ⟨B + 1, 1, none⟩ (.int .i64 (rb : Nat)) := ⟨_, rfl⟩
      have HE : Hid (W2 (B + 1) ra rb we ∧ Below B w we) := by
        rw [hwe]
        exact ⟨(hR.put0 _).put1 _, (HI.out.2.2.2.1.setCell (by show B ≤ B + 1; omega) _).setCell (by show B ≤ B + 1; omega) _⟩
      have m0 := hR.c0
      have m1 := hR.c1
      have mf0 := hR.free 0
      have mf1 := hR.free 1
      have n1 := (hR.put0 (ra : Int)).c1
      have nf1 := (hR.put0 (ra : Int)).free 1
      clear hke hv hD hR
      go_wp2
      rw [← hwe]
      clear hwe m0 m1 mf0 mf1 n1 nf1
      have t0 := HE.out.1.c0
      have t1 := HE.out.1.c1
      refine bodyPost_ret (v := .agg #[.int .i64 (ra : Nat), .int .i64 (rb : Nat)]) (by simp [results, Try.results37, go_sem, t0, t1]) rfl ?_
      exact ⟨rfl, by rw [← HBw.out]; exact HE.out.2⟩
end Go.Proofs.Ytlljaliemldjkaa
