/- Muller: Decode (the program): a word is mended by majority (printed by make/ko17.py). -/
import Derived.Test.YtmklnjkallhphaaZKO11
import Derived.Test.YtmklnjkallhphaaZS28
import Derived.Test.YtmklnjkallhphaaZI28
import Derived.Test.YtmklnjkallhphaaZS58
namespace Go.Proofs.Ytmklnjkallhphaa
open Go.RowKit Go.Sort Go.Shelf
attribute [local go_sem] Oper.semAt_some

theorem allP_ofM {p : Int → Bool} {z : Nat → Int} : ∀ n, (∀ j, j < n → p (z j) = true) → allP p z n = true
  | 0, _ => rfl
  | n + 1, h => by
    show (allP p z n && p (z n)) = true
    rw [allP_ofM n (fun j hj => h j (by omega)), h n (by omega)]; rfl
set_option maxHeartbeats 4000000 in
set_option maxRecDepth 100000 in
theorem monAdd_kp (s G N cap : Nat) (hs : s < 64) (hN : N ≤ 32) (c : Nat → Nat) (hc : ∀ x, x < N → c x < 2) {w : World} (hR : Row G N c w) :
    Calls Try.prog 33 #[.int .i64 (s : Nat), .slice (some ⟨G, 0, none⟩) N cap] w fun e w' => e = .returned (.tuple #[]) ∧ Row G N (mad s c N) w' ∧ KpO (fun k => k = G) w w' := by
  have HR : Hid (Row G N c w ∧ (∀ x, x < N → c x < 2) ) := ⟨hR, hc⟩
  clear hR hc
  go_enter Try.func33, Try.ntmps33
  go_wp2
  go_loopw [7] (fun vi wr => ∃ t : Nat, t ≤ N ∧ vi = .int .i64 (t : Nat) ∧ Hid (Row G N (mad s c t) wr ∧ KpO (fun k => k = G) w wr)) (fun vi _ => N - (intOf vi).toNat)
  case atStart => exact ⟨0, by omega, rfl, by
    have e : mad s c 0 = c := funext fun x => if_neg (by omega)
    rw [e]; exact HR.out.1, KpO.refl _ _⟩
  case round =>
    obtain ⟨t, ht, rfl, HI⟩ := hrel
    by_cases hlt : t < N
    · have hib : (t : Int) < (N : Int) := by omega
      have hi0 : (0 : Int) ≤ (t : Int) := by omega
      obtain ⟨a, ha⟩ : ∃ a, a = t &&& s := ⟨_, rfl⟩
      have hand : bits BinOp.and IntKind.i64 (t : Int) (s : Int) = (a : Int) := by rw [ha]; exact and_nat t s (by omega) hs
      by_cases hm : a = s
      · subst hm
        have hmt : mon a t = true := decide_eq_true ha.symm
        obtain ⟨b, hb⟩ : ∃ b, b = c t := ⟨_, rfl⟩
        have hb2 : b < 2 := by rw [hb]; exact HR.out.2 t hlt
        have hcell : wr.cell? ⟨G, t, none⟩ = some (.int .i64 (b : Nat)) := by
          have h := HI.out.1.cell t hlt
          rw [show mad a c t t = b by unfold mad; rw [if_neg (by omega), hb]] at h
          exact h
        have hfr := HI.out.1.free t
        have hxor : bits BinOp.xor IntKind.i64 (b : Int) 1 = ((1 - b : Nat) : Int) := xor_one b hb2
        have HX : Hid (∀ wz, wz = wr.setCell ⟨G, t, none⟩ (.int .i64 ((1 - b : Nat) : Int)) → Row G N (mad a c (t + 1)) wz ∧ KpO (fun k => k = G) w wz) := fun wz e => by
          rw [e]
          refine ⟨HI.out.1.store t (1 - b) (fun j _ => ?_), HI.out.2.trans (KpO.setCell _ _ _ rfl)⟩
          unfold mad
          by_cases ej : j = t
          · rw [if_pos ⟨by omega, by rw [ej]; exact hmt⟩, if_pos ej, ej, hb]
          · rw [if_neg ej]
            by_cases ej2 : j < t ∧ mon a j = true
            · rw [if_pos ⟨by omega, ej2.2⟩, if_pos ej2]
            · rw [if_neg ej2, if_neg (fun h => ej2 ⟨by omega, h.2⟩)]
        clear ha hb hmt
        go_wp2
        go_roundw
        case rel => exact ⟨t + 1, by omega, by go_num, HX.out _ rfl⟩
        case measure => simp [intOf]; omega
      · have hmb : ((a : Int) == (s : Int)) = false := by rw [beq_eq_false_iff_ne]; omega
        have HX : Hid (Row G N (mad s c (t + 1)) wr ∧ KpO (fun k => k = G) w wr) := by
          have e : mad s c (t + 1) = mad s c t := funext fun j => by
            unfold mad
            by_cases ej : j = t
            · have : mon s j = false := by rw [ej]; exact decide_eq_false (by rw [← ha]; exact hm)
              rw [if_neg (by rw [this]; simp), if_neg (by rw [this]; simp)]
            · by_cases ej2 : j < t ∧ mon s j = true
              · rw [if_pos ⟨by omega, ej2.2⟩, if_pos ej2]
              · rw [if_neg ej2, if_neg (fun h => ej2 ⟨by omega, h.2⟩)]
          rw [e]; exact HI.out
        clear ha
        go_wp2
        go_roundw
        case rel => exact ⟨t + 1, by omega, by go_num, HX.out⟩
        case measure => simp [intOf]; omega
    · have hib : ¬ (t : Int) < (N : Int) := by omega
      have HZ : Hid (Row G N (mad s c N) wr ∧ KpO (fun k => k = G) w wr) := by
        have h := HI.out
        rw [show t = N by omega] at h
        exact h
      go_wp2
      exact bodyPost_end (results_none rfl _ _ _) rfl ⟨rfl, HZ.out⟩
theorem wgt_le (c : Nat → Nat) : ∀ n, wgt c n ≤ n
  | 0 => Nat.le_refl _
  | n + 1 => by
    have := wgt_le c n
    show wgt c n + (if c n = 1 then 1 else 0) ≤ n + 1
    split <;> omega
/-- Decode's memory ahead of its loop, the two variables' lists made but not laid yet. -/
structure DcR (w w2 : World) (gM cM : Nat) (l : List Nat) (K0 P G GR cR bR : Nat) (c : Nat → Nat) (X : World) : Prop where
  bw : Below w.heap.size w X
  mb : BL w.heap.size (.slice none 0 0) X
  rb : BL bR (.slice none 0 0) X
  rg : Row G K0 pnil X
  rr : Row GR P c X
  ls : ∀ j, j < l.length → X.cell? ⟨gM, j, none⟩ = some (.int .i64 (l.getD j 0 : Nat))
  cr : P ≤ cR ∧ cR ≤ 9223372036854775807
  ge : w2.heap.size ≤ G ∧ w2.heap.size ≤ GR ∧ w2.heap.size ≤ bR
  lt : w.heap.size < w2.heap.size ∧ gM < w2.heap.size ∧ gM ≠ w.heap.size
  ne : G ≠ GR ∧ G ≠ bR ∧ GR ≠ bR
theorem DcR.step1 {w w2 : World} {gM cM : Nat} {l : List Nat} {K0 P G GR cR bR : Nat} {c : Nat → Nat} {X Y : World} (h : DcR w w2 gM cM l K0 P G GR cR bR c X) (e : Y = X.setCell ⟨w.heap.size, 0, none⟩ (.slice (some ⟨G, 0, none⟩) K0 K0)) : BL bR (.slice none 0 0) Y := by
  have h1 := h.ge
  have h2 := h.lt
  rw [e]
  exact RowF.other h.rb (Below.heap_setCell _ _ _ _ (by show bR ≠ w.heap.size; omega))
/-- Decode's memory as its loop begins. -/
structure DcL (w w2 : World) (gM : Nat) (l : List Nat) (K0 P G GR cR bR : Nat) (f c : Nat → Nat) (X : World) : Prop where
  bw : Below w.heap.size w X
  mb : BL w.heap.size (.slice (some ⟨G, 0, none⟩) K0 K0) X
  rb : BL bR (.slice (some ⟨GR, 0, none⟩) P cR) X
  rg : Row G K0 f X
  rr : Row GR P c X
  ls : ∀ j, j < l.length → X.cell? ⟨gM, j, none⟩ = some (.int .i64 (l.getD j 0 : Nat))
/-- Between two rounds. -/
def DcJ (w w2 : World) (gM : Nat) (l : List Nat) (K0 P G GR cR bR : Nat) (c : Nat → Nat) (S j : Nat) (X : World) : Prop :=
  DcL w w2 gM l K0 P G GR cR bR (fun i => if K0 - j ≤ i then dbt l P c i else 0) (mrs l P c j) X ∧ S ≤ X.heap.size
theorem DcR.step2 {w w2 : World} {gM cM : Nat} {l : List Nat} {K0 P G GR cR bR : Nat} {c : Nat → Nat} {X Y : World} (h : DcR w w2 gM cM l K0 P G GR cR bR c X) (e : Y = X.setCell ⟨w.heap.size, 0, none⟩ (.slice (some ⟨G, 0, none⟩) K0 K0)) (Z : World) (e2 : Z = Y.setCell ⟨bR, 0, none⟩ (.slice (some ⟨GR, 0, none⟩) P cR)) :
    Hid (DcL w w2 gM l K0 P G GR cR bR pnil c Z ∧ (P ≤ cR ∧ cR ≤ 9223372036854775807) ∧ (w2.heap.size ≤ G ∧ w2.heap.size ≤ GR ∧ w2.heap.size ≤ bR) ∧ (w.heap.size < w2.heap.size ∧ gM < w2.heap.size ∧ gM ≠ w.heap.size) ∧ (G ≠ GR ∧ G ≠ bR ∧ GR ≠ bR)) := by
  have h1 := h.ge
  have h2 := h.lt
  have h3 := h.ne
  have hs1 := h.step1 e
  have hh : ∀ k, k ≠ w.heap.size → k ≠ bR → Z.heap[k]? = X.heap[k]? := fun k k1 k2 => by
    rw [e2, e, Below.heap_setCell _ _ _ _ (by exact k2), Below.heap_setCell _ _ _ _ (by exact k1)]
  refine ⟨⟨?_, ?_, ?_, h.rg.other (hh _ (by omega) (by omega)), h.rr.other (hh _ (by omega) (by omega)), fun j hj => ?_⟩, h.cr, h1, h2, h3⟩
  · rw [e2, e]; exact (h.bw.setCell (Nat.le_refl _) _).setCell (by show w.heap.size ≤ bR; omega) _
  · rw [e2]
    refine RowF.other ?_ (Below.heap_setCell _ _ _ _ (by show w.heap.size ≠ bR; omega))
    rw [e]; exact h.mb.put _
  · rw [e2]; exact hs1.put _
  · have := hh gM (by omega) (by omega)
    have h5 := h.ls j hj
    unfold World.cell? at h5 ⊢
    rw [this]; exact h5
/-- What Decode tells of a word. -/
def DcP (r m P : Nat) (c : Nat → Nat) (w : World) (e : Ending) (w' : World) : Prop :=
  Below w.heap.size w w' ∧ ((2 * wgt (mrs (mnl m (r + 1)) P c (mnl m (r + 1)).length) P < 2 ^ (m - r) ∧ ∃ G, e = .returned (.tuple #[.slice (some ⟨G, 0, none⟩) (mnl m (r + 1)).length (mnl m (r + 1)).length, .int .i64 (wgt (mrs (mnl m (r + 1)) P c (mnl m (r + 1)).length) P : Nat), .bool true, .int .i64 0]) ∧ w.heap.size ≤ G ∧ Row G (mnl m (r + 1)).length (dbt (mnl m (r + 1)) P c) w') ∨
    (¬ 2 * wgt (mrs (mnl m (r + 1)) P c (mnl m (r + 1)).length) P < 2 ^ (m - r) ∧ e = .returned (.tuple #[.slice none 0 0, .int .i64 0, .bool false, .int .i64 0])))

set_option maxHeartbeats 16000000 in
set_option maxRecDepth 100000 in
theorem mDecode_any (r m P : Nat) (h1 : 1 ≤ m) (h : m ≤ 5) (hr : r ≤ m) (hP : P = 2 ^ m) {ao : Option Addr} {cap : Nat} {c : Nat → Nat} {w : World} (hs : Arg ao P cap (fun j => ((c j : Nat) : Int)) w) (hc : ∀ x, x < P → c x < 2) :
    Calls Try.prog 17 #[.int .i64 (r : Nat), .int .i64 (m : Nat), .slice ao P cap] w (DcP r m P c w) := by
  obtain ⟨l, hl⟩ : ∃ l, l = mnl m (r + 1) := ⟨_, rfl⟩
  obtain ⟨K0, hK0⟩ : ∃ K0, K0 = l.length := ⟨_, rfl⟩
  have hlen : K0 ≤ 1000 := by have := mnl_len h (r + 1); rw [hK0, hl]; omega
  have hpos : 0 < K0 := by rw [hK0, hl]; exact mnl_pos h1 h hr
  have hsh : (2 : Int) ^ m = (P : Int) := by rw [hP]; simp
  have hPb : P ≤ 32 := by rw [hP]; exact Nat.pow_le_pow_right (by omega) h
  have hPp : 0 < P := by rw [hP]; exact Nat.pow_pos (by omega)
  obtain ⟨w0, hw0⟩ : ∃ w0, w0 = w.alloc (.cells #[.slice none 0 0] 22) := ⟨_, rfl⟩
  have hb0 : Below w.heap.size w w0 := by rw [hw0]; exact (Below.refl _ _).alloc (Nat.le_refl _) _
  have HC : Hid (Calls Try.prog 10 #[.int .i64 (r : Nat), .int .i64 (m : Nat)] w0 fun e w' => e = .returned (.int .i64 0) ∧ w' = w0) := by have := mullCheck_any (r : Int) (m : Int) w0; rw [mck_fine h1 h hr] at this; exact this
  have HCk : Hid (Calls Try.prog 37 #[.slice ao P cap, .int .i64 (P : Nat)] w0 fun e w' => e = .returned (.int .i64 0) ∧ w' = w0) := by
    have := bCheck_any (cap := cap) (P : Nat) (slz_below hs.sl hb0) (by omega)
    rw [show bchk isbt P (fun j => ((c j : Nat) : Int)) (P : Nat) = 0 by
      unfold bchk
      rw [if_neg (fun h => h rfl), if_pos (allP_ofM P (fun j hj => decide_eq_true (by have := hc j hj; omega)))]] at this
    exact this
  have H0 : Hid (Below w.heap.size w w0 ∧ BL w.heap.size (.slice none 0 0) w0 ∧ w0.heap.size = w.heap.size + 1) := by rw [hw0]; exact ⟨(Below.refl _ _).alloc (Nat.le_refl _) _, BL.new _ _, by simp⟩
  have HL : Hid (l = mnl m (r + 1) ∧ K0 = l.length ∧ P = 2 ^ m ∧ Arg ao P cap (fun j => ((c j : Nat) : Int)) w ∧ (∀ x, x < P → c x < 2) ∧ ∀ i, i < l.length → l.getD i 0 < 32) := ⟨hl, hK0, hP, hs, hc, fun i hi => by
    have hlt := (mnl_ord h1 h hr).1 i (by rw [← hl]; exact hi)
    rw [← hl] at hlt
    have : 2 ^ m ≤ 2 ^ 5 := Nat.pow_le_pow_right (by omega) h
    omega⟩
  have hm5 := h
  clear hl hK0 hP hs hc hb0 h
  refine callsIn_wide.1 (callsIn_of_wp_marks (n := 0) Try.func17 rfl trivial ?_ rfl)
  refine wpIn_wide.2 ?_
  simp only [Try.ntmps17, List.size_toArray, List.length_cons, List.length_nil, Nat.reduceAdd, Nat.reduceSub, Array.replicate_succ, Array.replicate_zero, List.push_toArray, List.append_toArray, List.nil_append, List.cons_append]
  go_wp2_with fail
  rw [← hw0]
  clear hw0
  refine HC.out.mono ?_
  rintro e w' ⟨rfl, hw⟩
  have hw := hw.symm
  subst hw
  clear HC
  go_wp2_with fail
  refine HCk.out.mono ?_
  rintro e w' ⟨rfl, hw⟩
  have hw := hw.symm
  subst hw
  clear HCk
  go_wp2_with fail
  refine (monos_any r m w0).mono ?_
  rintro e w1 ⟨b1, b2, rfl, hbb, hbx, hb1⟩
  have HC2 : Hid (Calls Try.prog 36 #[.func (.func 51) #[] #[.pointer (some ⟨b1, 0, none⟩), .pointer (some ⟨b2, 0, none⟩)]] w1 fun e w' => ∃ v, e = .returned v ∧ OwnM w1.heap.size v (nli (mnl m (r + 1))) w' ∧ Below w1.heap.size w1 w') := collectM_any hm5 hr hbx
  have H1 : Hid (Below w0.heap.size w0 w1) := hb1
  clear hbb hbx hb1
  go_wp2_with fail
  refine HC2.out.mono ?_
  rintro e w2 ⟨v, rfl, hov, hb2⟩
  rw [← HL.out.1] at hov
  obtain ⟨gM, cM, rfl, ⟨hc1, hc2⟩, hgM, hgM2, hcl, hfr⟩ := hov.at (fun e => by have := nli_len l; rw [e] at this; simp at this; have := HL.out.2.1; omega)
  rw [nli_len] at hcl hc1
  have hKe : (nli l).length = K0 := by rw [nli_len, HL.out.2.1]
  rw [hKe]
  have H2 : Hid (Below w0.heap.size w0 w2 ∧ gM < w2.heap.size ∧ (∀ j, j < l.length → w2.cell? ⟨gM, j, none⟩ = some (.int .i64 (l.getD j 0 : Nat))) ∧ w0.heap.size ≤ gM) := by
    refine ⟨bel_up' H1.out hb2, hgM2, fun j hj => ?_, by have := H1.out.size; omega⟩
    rw [hcl j hj]
    have e := congrArg (fun q : List Int => q.getD j 0) (nli_zl l)
    rw [e, zl_getD _ _ _ hj]
  clear hov hb2 hcl hfr hgM hgM2 hKe hc1 hc2 HC2
  obtain ⟨ba, oa, hao, _⟩ := HL.out.2.2.2.1.sl 0 hPp
  subst hao
  have HCl : Hid (∀ wx, Below w2.heap.size w2 wx → Calls Try.prog 38 #[.slice (some ⟨ba, oa, none⟩) P cap] wx fun e w' => ∃ GR cR, e = .returned (.slice (some ⟨GR, 0, none⟩) P cR) ∧ Row GR P c w' ∧ wx.heap.size ≤ GR ∧ P ≤ cR ∧ cR ≤ 9223372036854775807 ∧ Below wx.heap.size wx w') := fun wx hx => by
    have hA := HL.out.2.2.2.1.below (bel_up' H0.out.1 (bel_up' H2.out.1 hx))
    refine (cloneI_any hA.sl (by omega) (hA.lt _ rfl)).mono ?_
    rintro e w' ⟨v, rfl, hov, hb⟩
    obtain ⟨P1, hP1⟩ : ∃ P1, P = P1 + 1 := ⟨P - 1, by omega⟩
    have hlt := hov.lt
    subst hP1
    obtain ⟨g, cp, e1, e2, e3, e4⟩ := own_elm hov
    subst e1
    exact ⟨g, cp, rfl, e4, (hlt g rfl).1, e2, e3, hb⟩
  have HDr : Hid (∀ x3 G GR cR bR, Below w2.heap.size w2 x3 → (Row G K0 pnil x3 ∧ w2.heap.size ≤ G) → (Row GR P c x3 ∧ w2.heap.size ≤ GR ∧ P ≤ cR ∧ cR ≤ 9223372036854775807) → (BL bR (.slice none 0 0) x3 ∧ w2.heap.size ≤ bR) → G ≠ GR → G ≠ bR → GR ≠ bR → DcR w w2 gM cM l K0 P G GR cR bR c x3) := fun x3 G GR cR bR hb q1 q2 q3 n1 n2 n3 => by
    have hb02 := H2.out.1
    have hs02 := hb02.size
    have hs0 := H0.out.2.2
    refine ⟨bel_up' H0.out.1 (bel_up' hb02 hb), (H0.out.2.1.keep hb02).keep hb, q3.1, q1.1, q2.1, fun j hj => ((bcell hb).1 _ _ H2.out.2.1).trans (H2.out.2.2.1 j hj), q2.2.2, ⟨q1.2, q2.2.1, q3.2⟩, ⟨by omega, H2.out.2.1, by have := H2.out.2.2.2; omega⟩, n1, n2, n3⟩
  go_upto_region 8 with fail
  go_cut [13] from 33 to 38 (fun v13 wx => ∃ bR G GR cR, v13 = .pointer (some ⟨bR, 0, none⟩) ∧ Hid (DcL w w2 gM l K0 P G GR cR bR pnil c wx ∧ (P ≤ cR ∧ cR ≤ 9223372036854775807) ∧ (w2.heap.size ≤ G ∧ w2.heap.size ≤ GR ∧ w2.heap.size ≤ bR) ∧ (w.heap.size < w2.heap.size ∧ gM < w2.heap.size ∧ gM ≠ w.heap.size) ∧ (G ≠ GR ∧ G ≠ bR ∧ GR ≠ bR)))
  case first =>
    have F0 : Hid (Below w2.heap.size w2 w2.drew) := (Below.refl _ _).drew
    refine wp_region_noPanic ?_
    refine wp_region_L (S := fun _ => True) [6, 7] (by kernel_rfl) ?_
    obtain ⟨x0, hx0⟩ : ∃ x0, x0 = w2.drew := ⟨_, rfl⟩
    rw [← hx0] at F0
    rw [← hx0]
    clear hx0
    refine wpAnyL_take (i := 0) (v := ?_) (by rw [List.getElem?_toArray]; rfl) (by decide +kernel) (by decide +kernel) (by decide +kernel) (by decide +kernel) (by decide +kernel) (fun _ _ _ h => h) trivial (Or.inl ⟨by rfl, ?_⟩) ?_
    rotate_left
    · intro wz hSz; go_simp; first | done | with_reducible rfl
    try simp only [Act.put, List.setIfInBounds_toArray, List.set_cons_zero, List.set_cons_succ]
    refine wpAnyL_take (i := 1) (v := ?_) (by rw [List.getElem?_toArray]; rfl) (by decide +kernel) (by decide +kernel) (by decide +kernel) (by decide +kernel) (by decide +kernel) (fun _ _ _ h => h) trivial (Or.inl ⟨by rfl, ?_⟩) ?_
    rotate_left
    · intro wz hSz; go_simp; first | done | with_reducible rfl
    try simp only [Act.put, List.setIfInBounds_toArray, List.set_cons_zero, List.set_cons_succ]
    refine wpAnyL_take (i := 3) (v := ?_) (by rw [List.getElem?_toArray]; rfl) (by decide +kernel) (by decide +kernel) (by decide +kernel) (by decide +kernel) (by decide +kernel) (fun _ _ _ h => h) trivial (Or.inl ⟨by rfl, ?_⟩) ?_
    rotate_left
    · intro wz hSz; go_simp; first | done | with_reducible rfl
    try simp only [Act.put, List.setIfInBounds_toArray, List.set_cons_zero, List.set_cons_succ]
    refine wpAnyL_three (i := 2) (k := 4) (m := 5) (by kernel_rfl) (by rw [List.getElem?_toArray]; rfl) (by rw [List.getElem?_toArray]; rfl) (by rw [List.getElem?_toArray]; rfl) (fun K hK => ?_) (fun K hK => ?_) (fun K hK => ?_)
    · have HK : Hid _ := hK
      clear hK
      refine step_make_int rfl _ _ rfl K0 rfl rfl (by omega) ?_
      intro x1 hrow hb hsz
      clear hsz
      obtain ⟨G, hG⟩ : ∃ G, G = x0.heap.size := ⟨_, rfl⟩
      have F1 : Hid (Below w2.heap.size w2 x1 ∧ (Row G K0 pnil x1 ∧ w2.heap.size ≤ G)) := ⟨bel_up' F0.out hb, ⟨by rw [hG]; exact hrow, by have := F0.out.size; omega⟩⟩
      try rw [← hG]
      have HK2 := HK.out
      try rw [← hG] at HK2
      clear hrow hb hG
      refine HK2 _ _ (fun _ => trivial) ?_
      clear HK2 HK K
      try simp only [Act.put, List.setIfInBounds_toArray, List.set_cons_zero, List.set_cons_succ]
      refine wpAnyL_two (i := 4) (k := 5) (by kernel_rfl) (by rw [List.getElem?_toArray]; rfl) (by rw [List.getElem?_toArray]; rfl) (fun K hK => ?_) (fun K hK => ?_)
      · have HK : Hid _ := hK
        clear hK
        go_simp
        refine (HCl.out x1 F1.out.1).mono ?_
        rintro e x2 ⟨GR, cR, rfl, hrow, hG, hc1, hc2, hb⟩
        have F2 : Hid (Below w2.heap.size w2 x2 ∧ (Row G K0 pnil x2 ∧ w2.heap.size ≤ G) ∧ (Row GR P c x2 ∧ w2.heap.size ≤ GR ∧ P ≤ cR ∧ cR ≤ 9223372036854775807) ∧ G ≠ GR) := ⟨bel_up' F1.out.1 hb, ⟨F1.out.2.1.below hb F1.out.2.1.lt, F1.out.2.2⟩, ⟨hrow, by have := F1.out.1.size; omega, hc1, hc2⟩, (by have := F1.out.2.1.lt; omega)⟩
        clear hrow hb hG hc1 hc2
        refine HK.out _ _ (fun _ => trivial) ?_
        clear HK K
        try simp only [Act.put, List.setIfInBounds_toArray, List.set_cons_zero, List.set_cons_succ]
        refine wpAnyL_one (i := 5) (by kernel_rfl) (by rw [List.getElem?_toArray]; rfl) (fun K hK => ?_)
        have HK : Hid _ := hK
        clear hK
        go_simp
        obtain ⟨x3, hx⟩ : ∃ x, x = x2.alloc (.cells #[.slice none 0 0] 22) := ⟨_, rfl⟩
        have hb : Below x2.heap.size x2 x3 := by rw [hx]; exact (Below.refl _ _).alloc (Nat.le_refl _) _
        obtain ⟨bR, hG⟩ : ∃ bR, bR = x2.heap.size := ⟨_, rfl⟩
        have hrow : BL bR (.slice none 0 0) x3 := by rw [hG, hx]; exact BL.new _ _
        try rw [← hx]
        have F3 : Hid (Below w2.heap.size w2 x3 ∧ (Row G K0 pnil x3 ∧ w2.heap.size ≤ G) ∧ (Row GR P c x3 ∧ w2.heap.size ≤ GR ∧ P ≤ cR ∧ cR ≤ 9223372036854775807) ∧ (BL bR (.slice none 0 0) x3 ∧ w2.heap.size ≤ bR) ∧ G ≠ GR ∧ G ≠ bR ∧ GR ≠ bR) := ⟨bel_up' F2.out.1 hb, ⟨F2.out.2.1.1.below hb F2.out.2.1.1.lt, F2.out.2.1.2⟩, ⟨F2.out.2.2.1.1.below hb F2.out.2.2.1.1.lt, F2.out.2.2.1.2⟩, ⟨hrow, by have := F2.out.1.size; omega⟩, F2.out.2.2.2, (by have := F2.out.2.1.1.lt; omega), (by have := F2.out.2.2.1.1.lt; omega)⟩
        try rw [← hG]
        have HK2 := HK.out
        try rw [← hG] at HK2
        clear hrow hb hG hx
        refine HK2 _ _ (fun _ => trivial) ?_
        clear HK2 HK K
        try simp only [Act.put, List.setIfInBounds_toArray, List.set_cons_zero, List.set_cons_succ]
        have HD : Hid (DcR w w2 gM cM l K0 P G GR cR bR c x3) := HDr.out x3 G GR cR bR F3.out.1 F3.out.2.1 F3.out.2.2.1 F3.out.2.2.2.1 (F3.out.2.2.2.2.1) (F3.out.2.2.2.2.2.1) (F3.out.2.2.2.2.2.2)
        clear F0 F1 F2 F3
        have ca := HD.out.mb.cell 0 (by omega)
        have fa := HD.out.mb.free 0
        refine wpAnyL_one (i := 6) (by kernel_rfl) (by rw [List.getElem?_toArray]; rfl) (fun K hK => ?_)
        have HK : Hid _ := hK
        clear hK
        go_simp
        refine HK.out _ _ (fun _ => trivial) ?_
        clear HK K ca fa
        try simp only [Act.put, List.setIfInBounds_toArray, List.set_cons_zero, List.set_cons_succ]
        obtain ⟨x4, hx4⟩ : ∃ x4, x4 = x3.setCell ⟨w.heap.size, 0, none⟩ (.slice (some ⟨G, 0, none⟩) K0 K0) := ⟨_, rfl⟩
        have hb4 := HD.out.step1 hx4
        rw [← hx4]
        have HX4 : Hid (x4 = x3.setCell ⟨w.heap.size, 0, none⟩ (.slice (some ⟨G, 0, none⟩) K0 K0)) := hx4
        clear hx4
        have ca := hb4.cell 0 (by omega)
        have fa := hb4.free 0
        refine wpAnyL_one (i := 7) (by kernel_rfl) (by rw [List.getElem?_toArray]; rfl) (fun K hK => ?_)
        have HK : Hid _ := hK
        clear hK
        go_simp
        refine HK.out _ _ (fun _ => trivial) ?_
        clear HK K ca fa
        have hb5 := HD.out.step2 HX4.out _ rfl
        refine wpAnyL_done (by kernel_rfl) (NoPanic.normal ?_)
        go_wp2
        go_meet
        exact ⟨bR, G, GR, cR, rfl, hb5⟩
      · have HK : Hid _ := hK
        clear hK
        go_simp
        obtain ⟨x2, hx⟩ : ∃ x, x = x1.alloc (.cells #[.slice none 0 0] 22) := ⟨_, rfl⟩
        have hb : Below x1.heap.size x1 x2 := by rw [hx]; exact (Below.refl _ _).alloc (Nat.le_refl _) _
        obtain ⟨bR, hG⟩ : ∃ bR, bR = x1.heap.size := ⟨_, rfl⟩
        have hrow : BL bR (.slice none 0 0) x2 := by rw [hG, hx]; exact BL.new _ _
        try rw [← hx]
        have F2 : Hid (Below w2.heap.size w2 x2 ∧ (Row G K0 pnil x2 ∧ w2.heap.size ≤ G) ∧ (BL bR (.slice none 0 0) x2 ∧ w2.heap.size ≤ bR) ∧ G ≠ bR) := ⟨bel_up' F1.out.1 hb, ⟨F1.out.2.1.below hb F1.out.2.1.lt, F1.out.2.2⟩, ⟨hrow, by have := F1.out.1.size; omega⟩, (by have := F1.out.2.1.lt; omega)⟩
        try rw [← hG]
        have HK2 := HK.out
        try rw [← hG] at HK2
        clear hrow hb hG hx
        refine HK2 _ _ (fun _ => trivial) ?_
        clear HK2 HK K
        try simp only [Act.put, List.setIfInBounds_toArray, List.set_cons_zero, List.set_cons_succ]
        refine wpAnyL_one (i := 4) (by kernel_rfl) (by rw [List.getElem?_toArray]; rfl) (fun K hK => ?_)
        have HK : Hid _ := hK
        clear hK
        go_simp
        refine (HCl.out x2 F2.out.1).mono ?_
        rintro e x3 ⟨GR, cR, rfl, hrow, hG, hc1, hc2, hb⟩
        have F3 : Hid (Below w2.heap.size w2 x3 ∧ (Row G K0 pnil x3 ∧ w2.heap.size ≤ G) ∧ (BL bR (.slice none 0 0) x3 ∧ w2.heap.size ≤ bR) ∧ (Row GR P c x3 ∧ w2.heap.size ≤ GR ∧ P ≤ cR ∧ cR ≤ 9223372036854775807) ∧ G ≠ bR ∧ G ≠ GR ∧ bR ≠ GR) := ⟨bel_up' F2.out.1 hb, ⟨F2.out.2.1.1.below hb F2.out.2.1.1.lt, F2.out.2.1.2⟩, ⟨F2.out.2.2.1.1.keep hb, F2.out.2.2.1.2⟩, ⟨hrow, by have := F2.out.1.size; omega, hc1, hc2⟩, F2.out.2.2.2, (by have := F2.out.2.1.1.lt; omega), (by have := RowF.lt F2.out.2.2.1.1; omega)⟩
        clear hrow hb hG hc1 hc2
        refine HK.out _ _ (fun _ => trivial) ?_
        clear HK K
        try simp only [Act.put, List.setIfInBounds_toArray, List.set_cons_zero, List.set_cons_succ]
        have HD : Hid (DcR w w2 gM cM l K0 P G GR cR bR c x3) := HDr.out x3 G GR cR bR F3.out.1 F3.out.2.1 F3.out.2.2.2.1 F3.out.2.2.1 (F3.out.2.2.2.2.2.1) (F3.out.2.2.2.2.1) (F3.out.2.2.2.2.2.2).symm
        clear F0 F1 F2 F3
        have ca := HD.out.mb.cell 0 (by omega)
        have fa := HD.out.mb.free 0
        refine wpAnyL_one (i := 6) (by kernel_rfl) (by rw [List.getElem?_toArray]; rfl) (fun K hK => ?_)
        have HK : Hid _ := hK
        clear hK
        go_simp
        refine HK.out _ _ (fun _ => trivial) ?_
        clear HK K ca fa
        try simp only [Act.put, List.setIfInBounds_toArray, List.set_cons_zero, List.set_cons_succ]
        obtain ⟨x4, hx4⟩ : ∃ x4, x4 = x3.setCell ⟨w.heap.size, 0, none⟩ (.slice (some ⟨G, 0, none⟩) K0 K0) := ⟨_, rfl⟩
        have hb4 := HD.out.step1 hx4
        rw [← hx4]
        have HX4 : Hid (x4 = x3.setCell ⟨w.heap.size, 0, none⟩ (.slice (some ⟨G, 0, none⟩) K0 K0)) := hx4
        clear hx4
        have ca := hb4.cell 0 (by omega)
        have fa := hb4.free 0
        refine wpAnyL_one (i := 7) (by kernel_rfl) (by rw [List.getElem?_toArray]; rfl) (fun K hK => ?_)
        have HK : Hid _ := hK
        clear hK
        go_simp
        refine HK.out _ _ (fun _ => trivial) ?_
        clear HK K ca fa
        have hb5 := HD.out.step2 HX4.out _ rfl
        refine wpAnyL_done (by kernel_rfl) (NoPanic.normal ?_)
        go_wp2
        go_meet
        exact ⟨bR, G, GR, cR, rfl, hb5⟩
    · have HK : Hid _ := hK
      clear hK
      go_simp
      refine (HCl.out x0 F0.out).mono ?_
      rintro e x1 ⟨GR, cR, rfl, hrow, hG, hc1, hc2, hb⟩
      have F1 : Hid (Below w2.heap.size w2 x1 ∧ (Row GR P c x1 ∧ w2.heap.size ≤ GR ∧ P ≤ cR ∧ cR ≤ 9223372036854775807)) := ⟨bel_up' F0.out hb, ⟨hrow, by have := F0.out.size; omega, hc1, hc2⟩⟩
      clear hrow hb hG hc1 hc2
      refine HK.out _ _ (fun _ => trivial) ?_
      clear HK K
      try simp only [Act.put, List.setIfInBounds_toArray, List.set_cons_zero, List.set_cons_succ]
      refine wpAnyL_two (i := 2) (k := 5) (by kernel_rfl) (by rw [List.getElem?_toArray]; rfl) (by rw [List.getElem?_toArray]; rfl) (fun K hK => ?_) (fun K hK => ?_)
      · have HK : Hid _ := hK
        clear hK
        refine step_make_int rfl _ _ rfl K0 rfl rfl (by omega) ?_
        intro x2 hrow hb hsz
        clear hsz
        obtain ⟨G, hG⟩ : ∃ G, G = x1.heap.size := ⟨_, rfl⟩
        have F2 : Hid (Below w2.heap.size w2 x2 ∧ (Row GR P c x2 ∧ w2.heap.size ≤ GR ∧ P ≤ cR ∧ cR ≤ 9223372036854775807) ∧ (Row G K0 pnil x2 ∧ w2.heap.size ≤ G) ∧ GR ≠ G) := ⟨bel_up' F1.out.1 hb, ⟨F1.out.2.1.below hb F1.out.2.1.lt, F1.out.2.2⟩, ⟨by rw [hG]; exact hrow, by have := F1.out.1.size; omega⟩, (by have := F1.out.2.1.lt; omega)⟩
        try rw [← hG]
        have HK2 := HK.out
        try rw [← hG] at HK2
        clear hrow hb hG
        refine HK2 _ _ (fun _ => trivial) ?_
        clear HK2 HK K
        try simp only [Act.put, List.setIfInBounds_toArray, List.set_cons_zero, List.set_cons_succ]
        refine wpAnyL_one (i := 5) (by kernel_rfl) (by rw [List.getElem?_toArray]; rfl) (fun K hK => ?_)
        have HK : Hid _ := hK
        clear hK
        go_simp
        obtain ⟨x3, hx⟩ : ∃ x, x = x2.alloc (.cells #[.slice none 0 0] 22) := ⟨_, rfl⟩
        have hb : Below x2.heap.size x2 x3 := by rw [hx]; exact (Below.refl _ _).alloc (Nat.le_refl _) _
        obtain ⟨bR, hG⟩ : ∃ bR, bR = x2.heap.size := ⟨_, rfl⟩
        have hrow : BL bR (.slice none 0 0) x3 := by rw [hG, hx]; exact BL.new _ _
        try rw [← hx]
        have F3 : Hid (Below w2.heap.size w2 x3 ∧ (Row GR P c x3 ∧ w2.heap.size ≤ GR ∧ P ≤ cR ∧ cR ≤ 9223372036854775807) ∧ (Row G K0 pnil x3 ∧ w2.heap.size ≤ G) ∧ (BL bR (.slice none 0 0) x3 ∧ w2.heap.size ≤ bR) ∧ GR ≠ G ∧ GR ≠ bR ∧ G ≠ bR) := ⟨bel_up' F2.out.1 hb, ⟨F2.out.2.1.1.below hb F2.out.2.1.1.lt, F2.out.2.1.2⟩, ⟨F2.out.2.2.1.1.below hb F2.out.2.2.1.1.lt, F2.out.2.2.1.2⟩, ⟨hrow, by have := F2.out.1.size; omega⟩, F2.out.2.2.2, (by have := F2.out.2.1.1.lt; omega), (by have := F2.out.2.2.1.1.lt; omega)⟩
        try rw [← hG]
        have HK2 := HK.out
        try rw [← hG] at HK2
        clear hrow hb hG hx
        refine HK2 _ _ (fun _ => trivial) ?_
        clear HK2 HK K
        try simp only [Act.put, List.setIfInBounds_toArray, List.set_cons_zero, List.set_cons_succ]
        have HD : Hid (DcR w w2 gM cM l K0 P G GR cR bR c x3) := HDr.out x3 G GR cR bR F3.out.1 F3.out.2.2.1 F3.out.2.1 F3.out.2.2.2.1 (F3.out.2.2.2.2.1).symm (F3.out.2.2.2.2.2.2) (F3.out.2.2.2.2.2.1)
        clear F0 F1 F2 F3
        have ca := HD.out.mb.cell 0 (by omega)
        have fa := HD.out.mb.free 0
        refine wpAnyL_one (i := 6) (by kernel_rfl) (by rw [List.getElem?_toArray]; rfl) (fun K hK => ?_)
        have HK : Hid _ := hK
        clear hK
        go_simp
        refine HK.out _ _ (fun _ => trivial) ?_
        clear HK K ca fa
        try simp only [Act.put, List.setIfInBounds_toArray, List.set_cons_zero, List.set_cons_succ]
        obtain ⟨x4, hx4⟩ : ∃ x4, x4 = x3.setCell ⟨w.heap.size, 0, none⟩ (.slice (some ⟨G, 0, none⟩) K0 K0) := ⟨_, rfl⟩
        have hb4 := HD.out.step1 hx4
        rw [← hx4]
        have HX4 : Hid (x4 = x3.setCell ⟨w.heap.size, 0, none⟩ (.slice (some ⟨G, 0, none⟩) K0 K0)) := hx4
        clear hx4
        have ca := hb4.cell 0 (by omega)
        have fa := hb4.free 0
        refine wpAnyL_one (i := 7) (by kernel_rfl) (by rw [List.getElem?_toArray]; rfl) (fun K hK => ?_)
        have HK : Hid _ := hK
        clear hK
        go_simp
        refine HK.out _ _ (fun _ => trivial) ?_
        clear HK K ca fa
        have hb5 := HD.out.step2 HX4.out _ rfl
        refine wpAnyL_done (by kernel_rfl) (NoPanic.normal ?_)
        go_wp2
        go_meet
        exact ⟨bR, G, GR, cR, rfl, hb5⟩
      · have HK : Hid _ := hK
        clear hK
        go_simp
        obtain ⟨x2, hx⟩ : ∃ x, x = x1.alloc (.cells #[.slice none 0 0] 22) := ⟨_, rfl⟩
        have hb : Below x1.heap.size x1 x2 := by rw [hx]; exact (Below.refl _ _).alloc (Nat.le_refl _) _
        obtain ⟨bR, hG⟩ : ∃ bR, bR = x1.heap.size := ⟨_, rfl⟩
        have hrow : BL bR (.slice none 0 0) x2 := by rw [hG, hx]; exact BL.new _ _
        try rw [← hx]
        have F2 : Hid (Below w2.heap.size w2 x2 ∧ (Row GR P c x2 ∧ w2.heap.size ≤ GR ∧ P ≤ cR ∧ cR ≤ 9223372036854775807) ∧ (BL bR (.slice none 0 0) x2 ∧ w2.heap.size ≤ bR) ∧ GR ≠ bR) := ⟨bel_up' F1.out.1 hb, ⟨F1.out.2.1.below hb F1.out.2.1.lt, F1.out.2.2⟩, ⟨hrow, by have := F1.out.1.size; omega⟩, (by have := F1.out.2.1.lt; omega)⟩
        try rw [← hG]
        have HK2 := HK.out
        try rw [← hG] at HK2
        clear hrow hb hG hx
        refine HK2 _ _ (fun _ => trivial) ?_
        clear HK2 HK K
        try simp only [Act.put, List.setIfInBounds_toArray, List.set_cons_zero, List.set_cons_succ]
        refine wpAnyL_one (i := 2) (by kernel_rfl) (by rw [List.getElem?_toArray]; rfl) (fun K hK => ?_)
        have HK : Hid _ := hK
        clear hK
        refine step_make_int rfl _ _ rfl K0 rfl rfl (by omega) ?_
        intro x3 hrow hb hsz
        clear hsz
        obtain ⟨G, hG⟩ : ∃ G, G = x2.heap.size := ⟨_, rfl⟩
        have F3 : Hid (Below w2.heap.size w2 x3 ∧ (Row GR P c x3 ∧ w2.heap.size ≤ GR ∧ P ≤ cR ∧ cR ≤ 9223372036854775807) ∧ (BL bR (.slice none 0 0) x3 ∧ w2.heap.size ≤ bR) ∧ (Row G K0 pnil x3 ∧ w2.heap.size ≤ G) ∧ GR ≠ bR ∧ GR ≠ G ∧ bR ≠ G) := ⟨bel_up' F2.out.1 hb, ⟨F2.out.2.1.1.below hb F2.out.2.1.1.lt, F2.out.2.1.2⟩, ⟨F2.out.2.2.1.1.keep hb, F2.out.2.2.1.2⟩, ⟨by rw [hG]; exact hrow, by have := F2.out.1.size; omega⟩, F2.out.2.2.2, (by have := F2.out.2.1.1.lt; omega), (by have := RowF.lt F2.out.2.2.1.1; omega)⟩
        try rw [← hG]
        have HK2 := HK.out
        try rw [← hG] at HK2
        clear hrow hb hG
        refine HK2 _ _ (fun _ => trivial) ?_
        clear HK2 HK K
        try simp only [Act.put, List.setIfInBounds_toArray, List.set_cons_zero, List.set_cons_succ]
        have HD : Hid (DcR w w2 gM cM l K0 P G GR cR bR c x3) := HDr.out x3 G GR cR bR F3.out.1 F3.out.2.2.2.1 F3.out.2.1 F3.out.2.2.1 (F3.out.2.2.2.2.2.1).symm (F3.out.2.2.2.2.2.2).symm (F3.out.2.2.2.2.1)
        clear F0 F1 F2 F3
        have ca := HD.out.mb.cell 0 (by omega)
        have fa := HD.out.mb.free 0
        refine wpAnyL_one (i := 6) (by kernel_rfl) (by rw [List.getElem?_toArray]; rfl) (fun K hK => ?_)
        have HK : Hid _ := hK
        clear hK
        go_simp
        refine HK.out _ _ (fun _ => trivial) ?_
        clear HK K ca fa
        try simp only [Act.put, List.setIfInBounds_toArray, List.set_cons_zero, List.set_cons_succ]
        obtain ⟨x4, hx4⟩ : ∃ x4, x4 = x3.setCell ⟨w.heap.size, 0, none⟩ (.slice (some ⟨G, 0, none⟩) K0 K0) := ⟨_, rfl⟩
        have hb4 := HD.out.step1 hx4
        rw [← hx4]
        have HX4 : Hid (x4 = x3.setCell ⟨w.heap.size, 0, none⟩ (.slice (some ⟨G, 0, none⟩) K0 K0)) := hx4
        clear hx4
        have ca := hb4.cell 0 (by omega)
        have fa := hb4.free 0
        refine wpAnyL_one (i := 7) (by kernel_rfl) (by rw [List.getElem?_toArray]; rfl) (fun K hK => ?_)
        have HK : Hid _ := hK
        clear hK
        go_simp
        refine HK.out _ _ (fun _ => trivial) ?_
        clear HK K ca fa
        have hb5 := HD.out.step2 HX4.out _ rfl
        refine wpAnyL_done (by kernel_rfl) (NoPanic.normal ?_)
        go_wp2
        go_meet
        exact ⟨bR, G, GR, cR, rfl, hb5⟩
    · have HK : Hid _ := hK
      clear hK
      go_simp
      obtain ⟨x1, hx⟩ : ∃ x, x = x0.alloc (.cells #[.slice none 0 0] 22) := ⟨_, rfl⟩
      have hb : Below x0.heap.size x0 x1 := by rw [hx]; exact (Below.refl _ _).alloc (Nat.le_refl _) _
      obtain ⟨bR, hG⟩ : ∃ bR, bR = x0.heap.size := ⟨_, rfl⟩
      have hrow : BL bR (.slice none 0 0) x1 := by rw [hG, hx]; exact BL.new _ _
      try rw [← hx]
      have F1 : Hid (Below w2.heap.size w2 x1 ∧ (BL bR (.slice none 0 0) x1 ∧ w2.heap.size ≤ bR)) := ⟨bel_up' F0.out hb, ⟨hrow, by have := F0.out.size; omega⟩⟩
      try rw [← hG]
      have HK2 := HK.out
      try rw [← hG] at HK2
      clear hrow hb hG hx
      refine HK2 _ _ (fun _ => trivial) ?_
      clear HK2 HK K
      try simp only [Act.put, List.setIfInBounds_toArray, List.set_cons_zero, List.set_cons_succ]
      refine wpAnyL_two (i := 2) (k := 4) (by kernel_rfl) (by rw [List.getElem?_toArray]; rfl) (by rw [List.getElem?_toArray]; rfl) (fun K hK => ?_) (fun K hK => ?_)
      · have HK : Hid _ := hK
        clear hK
        refine step_make_int rfl _ _ rfl K0 rfl rfl (by omega) ?_
        intro x2 hrow hb hsz
        clear hsz
        obtain ⟨G, hG⟩ : ∃ G, G = x1.heap.size := ⟨_, rfl⟩
        have F2 : Hid (Below w2.heap.size w2 x2 ∧ (BL bR (.slice none 0 0) x2 ∧ w2.heap.size ≤ bR) ∧ (Row G K0 pnil x2 ∧ w2.heap.size ≤ G) ∧ bR ≠ G) := ⟨bel_up' F1.out.1 hb, ⟨F1.out.2.1.keep hb, F1.out.2.2⟩, ⟨by rw [hG]; exact hrow, by have := F1.out.1.size; omega⟩, (by have := RowF.lt F1.out.2.1; omega)⟩
        try rw [← hG]
        have HK2 := HK.out
        try rw [← hG] at HK2
        clear hrow hb hG
        refine HK2 _ _ (fun _ => trivial) ?_
        clear HK2 HK K
        try simp only [Act.put, List.setIfInBounds_toArray, List.set_cons_zero, List.set_cons_succ]
        refine wpAnyL_one (i := 4) (by kernel_rfl) (by rw [List.getElem?_toArray]; rfl) (fun K hK => ?_)
        have HK : Hid _ := hK
        clear hK
        go_simp
        refine (HCl.out x2 F2.out.1).mono ?_
        rintro e x3 ⟨GR, cR, rfl, hrow, hG, hc1, hc2, hb⟩
        have F3 : Hid (Below w2.heap.size w2 x3 ∧ (BL bR (.slice none 0 0) x3 ∧ w2.heap.size ≤ bR) ∧ (Row G K0 pnil x3 ∧ w2.heap.size ≤ G) ∧ (Row GR P c x3 ∧ w2.heap.size ≤ GR ∧ P ≤ cR ∧ cR ≤ 9223372036854775807) ∧ bR ≠ G ∧ bR ≠ GR ∧ G ≠ GR) := ⟨bel_up' F2.out.1 hb, ⟨F2.out.2.1.1.keep hb, F2.out.2.1.2⟩, ⟨F2.out.2.2.1.1.below hb F2.out.2.2.1.1.lt, F2.out.2.2.1.2⟩, ⟨hrow, by have := F2.out.1.size; omega, hc1, hc2⟩, F2.out.2.2.2, (by have := RowF.lt F2.out.2.1.1; omega), (by have := F2.out.2.2.1.1.lt; omega)⟩
        clear hrow hb hG hc1 hc2
        refine HK.out _ _ (fun _ => trivial) ?_
        clear HK K
        try simp only [Act.put, List.setIfInBounds_toArray, List.set_cons_zero, List.set_cons_succ]
        have HD : Hid (DcR w w2 gM cM l K0 P G GR cR bR c x3) := HDr.out x3 G GR cR bR F3.out.1 F3.out.2.2.1 F3.out.2.2.2.1 F3.out.2.1 (F3.out.2.2.2.2.2.2) (F3.out.2.2.2.2.1).symm (F3.out.2.2.2.2.2.1).symm
        clear F0 F1 F2 F3
        have ca := HD.out.mb.cell 0 (by omega)
        have fa := HD.out.mb.free 0
        refine wpAnyL_one (i := 6) (by kernel_rfl) (by rw [List.getElem?_toArray]; rfl) (fun K hK => ?_)
        have HK : Hid _ := hK
        clear hK
        go_simp
        refine HK.out _ _ (fun _ => trivial) ?_
        clear HK K ca fa
        try simp only [Act.put, List.setIfInBounds_toArray, List.set_cons_zero, List.set_cons_succ]
        obtain ⟨x4, hx4⟩ : ∃ x4, x4 = x3.setCell ⟨w.heap.size, 0, none⟩ (.slice (some ⟨G, 0, none⟩) K0 K0) := ⟨_, rfl⟩
        have hb4 := HD.out.step1 hx4
        rw [← hx4]
        have HX4 : Hid (x4 = x3.setCell ⟨w.heap.size, 0, none⟩ (.slice (some ⟨G, 0, none⟩) K0 K0)) := hx4
        clear hx4
        have ca := hb4.cell 0 (by omega)
        have fa := hb4.free 0
        refine wpAnyL_one (i := 7) (by kernel_rfl) (by rw [List.getElem?_toArray]; rfl) (fun K hK => ?_)
        have HK : Hid _ := hK
        clear hK
        go_simp
        refine HK.out _ _ (fun _ => trivial) ?_
        clear HK K ca fa
        have hb5 := HD.out.step2 HX4.out _ rfl
        refine wpAnyL_done (by kernel_rfl) (NoPanic.normal ?_)
        go_wp2
        go_meet
        exact ⟨bR, G, GR, cR, rfl, hb5⟩
      · have HK : Hid _ := hK
        clear hK
        go_simp
        refine (HCl.out x1 F1.out.1).mono ?_
        rintro e x2 ⟨GR, cR, rfl, hrow, hG, hc1, hc2, hb⟩
        have F2 : Hid (Below w2.heap.size w2 x2 ∧ (BL bR (.slice none 0 0) x2 ∧ w2.heap.size ≤ bR) ∧ (Row GR P c x2 ∧ w2.heap.size ≤ GR ∧ P ≤ cR ∧ cR ≤ 9223372036854775807) ∧ bR ≠ GR) := ⟨bel_up' F1.out.1 hb, ⟨F1.out.2.1.keep hb, F1.out.2.2⟩, ⟨hrow, by have := F1.out.1.size; omega, hc1, hc2⟩, (by have := RowF.lt F1.out.2.1; omega)⟩
        clear hrow hb hG hc1 hc2
        refine HK.out _ _ (fun _ => trivial) ?_
        clear HK K
        try simp only [Act.put, List.setIfInBounds_toArray, List.set_cons_zero, List.set_cons_succ]
        refine wpAnyL_one (i := 2) (by kernel_rfl) (by rw [List.getElem?_toArray]; rfl) (fun K hK => ?_)
        have HK : Hid _ := hK
        clear hK
        refine step_make_int rfl _ _ rfl K0 rfl rfl (by omega) ?_
        intro x3 hrow hb hsz
        clear hsz
        obtain ⟨G, hG⟩ : ∃ G, G = x2.heap.size := ⟨_, rfl⟩
        have F3 : Hid (Below w2.heap.size w2 x3 ∧ (BL bR (.slice none 0 0) x3 ∧ w2.heap.size ≤ bR) ∧ (Row GR P c x3 ∧ w2.heap.size ≤ GR ∧ P ≤ cR ∧ cR ≤ 9223372036854775807) ∧ (Row G K0 pnil x3 ∧ w2.heap.size ≤ G) ∧ bR ≠ GR ∧ bR ≠ G ∧ GR ≠ G) := ⟨bel_up' F2.out.1 hb, ⟨F2.out.2.1.1.keep hb, F2.out.2.1.2⟩, ⟨F2.out.2.2.1.1.below hb F2.out.2.2.1.1.lt, F2.out.2.2.1.2⟩, ⟨by rw [hG]; exact hrow, by have := F2.out.1.size; omega⟩, F2.out.2.2.2, (by have := RowF.lt F2.out.2.1.1; omega), (by have := F2.out.2.2.1.1.lt; omega)⟩
        try rw [← hG]
        have HK2 := HK.out
        try rw [← hG] at HK2
        clear hrow hb hG
        refine HK2 _ _ (fun _ => trivial) ?_
        clear HK2 HK K
        try simp only [Act.put, List.setIfInBounds_toArray, List.set_cons_zero, List.set_cons_succ]
        have HD : Hid (DcR w w2 gM cM l K0 P G GR cR bR c x3) := HDr.out x3 G GR cR bR F3.out.1 F3.out.2.2.2.1 F3.out.2.2.1 F3.out.2.1 (F3.out.2.2.2.2.2.2).symm (F3.out.2.2.2.2.2.1).symm (F3.out.2.2.2.2.1).symm
        clear F0 F1 F2 F3
        have ca := HD.out.mb.cell 0 (by omega)
        have fa := HD.out.mb.free 0
        refine wpAnyL_one (i := 6) (by kernel_rfl) (by rw [List.getElem?_toArray]; rfl) (fun K hK => ?_)
        have HK : Hid _ := hK
        clear hK
        go_simp
        refine HK.out _ _ (fun _ => trivial) ?_
        clear HK K ca fa
        try simp only [Act.put, List.setIfInBounds_toArray, List.set_cons_zero, List.set_cons_succ]
        obtain ⟨x4, hx4⟩ : ∃ x4, x4 = x3.setCell ⟨w.heap.size, 0, none⟩ (.slice (some ⟨G, 0, none⟩) K0 K0) := ⟨_, rfl⟩
        have hb4 := HD.out.step1 hx4
        rw [← hx4]
        have HX4 : Hid (x4 = x3.setCell ⟨w.heap.size, 0, none⟩ (.slice (some ⟨G, 0, none⟩) K0 K0)) := hx4
        clear hx4
        have ca := hb4.cell 0 (by omega)
        have fa := hb4.free 0
        refine wpAnyL_one (i := 7) (by kernel_rfl) (by rw [List.getElem?_toArray]; rfl) (fun K hK => ?_)
        have HK : Hid _ := hK
        clear hK
        go_simp
        refine HK.out _ _ (fun _ => trivial) ?_
        clear HK K ca fa
        have hb5 := HD.out.step2 HX4.out _ rfl
        refine wpAnyL_done (by kernel_rfl) (NoPanic.normal ?_)
        go_wp2
        go_meet
        exact ⟨bR, G, GR, cR, rfl, hb5⟩
  case rest =>
    obtain ⟨bR, G, GR, cR, hv13, HX⟩ := hcut
    subst hv13
    obtain ⟨wy, hwy⟩ : ∃ wy, wy = wc.alloc (.cells #[.slice (some ⟨gM, 0, none⟩) K0 cM] 63) := ⟨_, rfl⟩
    have hby : Below wc.heap.size wc wy := by rw [hwy]; exact (Below.refl _ _).alloc (Nat.le_refl _) _
    have hsy : wy.heap.size = wc.heap.size + 1 := by rw [hwy]; simp
    have hcy : wy.cell? ⟨wc.heap.size, 0, none⟩ = some (.slice (some ⟨gM, 0, none⟩) K0 cM) := by rw [hwy]; simp
    have HBk : Hid (∀ wx, wx = wc → Calls Try.prog 39 #[.slice (some ⟨gM, 0, none⟩) K0 cM] wx fun e w' => e = .returned (.func (.func 57) #[] #[.pointer (some ⟨wc.heap.size, 0, none⟩)]) ∧ w' = wy) := fun wx e => by
      subst e; rw [hwy]; exact back_any _ _ ⟨_, _, _, rfl⟩
    have HO : Hid (w.heap.size < wc.heap.size ∧ gM < wc.heap.size ∧ G < wc.heap.size ∧ GR < wc.heap.size ∧ bR < wc.heap.size ∧ wy.heap.size = wc.heap.size + 1 ∧ w.heap.size < G ∧ w.heap.size < GR ∧ w.heap.size < bR ∧ gM ≠ G ∧ gM ≠ GR) := by
      have a1 := RowF.lt HX.out.1.mb
      have a2 := HX.out.1.rg.lt
      have a3 := HX.out.1.rr.lt
      have a4 := RowF.lt HX.out.1.rb
      have a5 := cell_lt (HX.out.1.ls 0 (by have := HL.out.2.1; omega))
      have a6 := HX.out.2.2.1
      have a7 := HX.out.2.2.2.1
      simp only at a5
      exact ⟨a1, a5, a2, a3, a4, hsy, by omega, by omega, by omega, by omega, by omega⟩
    have hbk : BkU wc.heap.size gM cM l wy := by
      refine ⟨by rw [← HL.out.2.1]; exact hcy, fun j hj => ?_⟩
      have h5 := HX.out.1.ls j hj
      exact ((bcell hby).1 _ _ (cell_lt h5)).trans h5
    have hseq : SeqI Try.prog 57 #[.pointer (some ⟨wc.heap.size, 0, none⟩)] l.length (MnB l) (fun k => k = G ∨ k = GR) wy :=
      back_seq (by have := HL.out.2.1; omega) (by have := HL.out.2.1; omega) hbk (fun e => by have := HO.out; omega) (fun e => by have := HO.out; omega)
    have HQ : Hid (SeqI Try.prog 57 #[.pointer (some ⟨wc.heap.size, 0, none⟩)] l.length (MnB l) (fun k => k = G ∨ k = GR) wy) := hseq
    have HY : Hid (DcL w w2 gM l K0 P G GR cR bR pnil c wy) := by
      have hx := HX.out.1
      exact ⟨bel_up' hx.bw hby, hx.mb.keep hby, hx.rb.keep hby, hx.rg.below hby hx.rg.lt, hx.rr.below hby hx.rr.lt, fun j hj => ((bcell hby).1 _ _ (cell_lt (hx.ls j hj))).trans (hx.ls j hj)⟩
    clear hwy hby hsy hcy hbk hseq
    go_wp2_with fail
    refine (HBk.out wc rfl).mono ?_
    rintro e wy' ⟨rfl, he⟩
    subst he
    obtain ⟨bs, hbs⟩ : ∃ bs, bs = wc.heap.size := ⟨_, rfl⟩
    rw [← hbs] at HQ HO HBk ⊢
    clear hbs HBk
    go_wp2
    refine range_law (gf := 57) (lb := #[.pointer (some ⟨bs, 0, none⟩)]) rfl (enters_of Try.func57 (by kernel_rfl) rfl) HQ.out (fun x e => by have := HO.out; omega) (fun r args X h => by rw [h.2]; rfl)
      (DcJ w w2 gM l K0 P G GR cR bR c wy'.heap.size) ?stable (fun r args X Y h hg => h) ?start
      (fun args => { tmps := #[.int .i64 (r : Nat), .int .i64 (m : Nat), .slice (some ⟨ba, oa, none⟩) P cap, undef, undef, undef, .pointer (some ⟨w.heap.size, 0, none⟩), .int .i64 0, .bool false, .int .i64 0, .int .i64 0, .int .i64 0, .slice (some ⟨gM, 0, none⟩) K0 cM, .pointer (some ⟨bR, 0, none⟩), args.getD 0 undef, args.getD 1 undef, .int .i64 (r : Nat), .int .i64 (m : Nat), .int .i64 0, .int .i64 0, .bool false, undef, .slice (some ⟨ba, oa, none⟩) P cap, .int .i64 (m : Nat), .int .i64 (P : Nat), .int .i64 0, .int .i64 0, .bool false, undef, .int .i64 (r : Nat), .int .i64 (m : Nat), .func (.func 51) #[] #[.pointer (some ⟨b1, 0, none⟩), .pointer (some ⟨b2, 0, none⟩)], .slice (some ⟨gM, 0, none⟩) K0 cM, u33, u34, u35, u36, u37, .slice (some ⟨gM, 0, none⟩) K0 cM, .func (.func 57) #[] #[.pointer (some ⟨bs, 0, none⟩)], args.getD 0 undef, args.getD 1 undef, undef, undef, undef, undef, undef, undef, undef, undef, undef, undef, undef, undef, undef, undef, undef, undef, undef, undef, undef, undef], defers := [] })
      ?assign ?body ?done
    case stable =>
      rintro j X Y ⟨hD, hs⟩ hg
      have hO := HO.out
      have hc : ∀ {b : Nat} {v : Value}, BL b v X → BL b v Y := fun {b v} hb => RowF.other hb (hg.same b (RowF.lt hb) (Or.inr fun o ho => by
        obtain ⟨cs, q, _⟩ := hb
        rw [q] at ho; cases ho; rfl))
      refine ⟨⟨hD.bw.trans ⟨hg.os, hg.tape, hg.output, hg.size, fun i hi => hg.same i (by have := hD.bw.size; omega) (Or.inl (by omega))⟩, hc hD.mb, hc hD.rb, hD.rg.grc hg, hD.rr.grc hg, fun i hi => ?_⟩, by have := hg.size; omega⟩
      have h5 := hD.ls i hi
      have e := hg.same gM (cell_lt h5) (Or.inl (by omega))
      unfold World.cell? at h5 ⊢
      rw [e]; exact h5
    case start =>
      refine ⟨?_, Nat.le_refl _⟩
      have hx := HY.out
      exact ⟨hx.bw, hx.mb, hx.rb, hx.rg.congr (fun i hi => by rw [if_neg (by omega)]; rfl), hx.rr, hx.ls⟩
    case assign =>
      intro lp j args X K he hK
      obtain ⟨_, ha⟩ := he
      obtain ⟨y, hy⟩ : ∃ y, y = l.getD (l.length - 1 - j) 0 := ⟨_, rfl⟩
      obtain ⟨t, ht⟩ : ∃ t, t = l.length - 1 - j := ⟨_, rfl⟩
      rw [← hy, ← ht] at ha
      subst ha
      clear hy ht
      gi_wp2
      exact hK
    case body =>
      rintro lp j args X hj ⟨hD, hs⟩ he
      obtain ⟨_, ha⟩ := he
      obtain ⟨t, ht⟩ : ∃ t, t = l.length - 1 - j := ⟨_, rfl⟩
      rw [← ht] at ha
      obtain ⟨y, hy⟩ : ∃ y, y = l.getD t 0 := ⟨_, rfl⟩
      rw [← hy] at ha
      subst ha
      have htK : t < K0 := by have := HL.out.2.1; omega
      have HTK : Hid (K0 = t + 1 + j) := by have := HL.out.2.1; show K0 = t + 1 + j; omega
      have hy32 : y < 32 := by rw [hy]; exact HL.out.2.2.2.2.2 t (by have := HL.out.2.1; omega)
      have hrb := RowF.cell hD.rb 0 (by omega)
      have hmb := RowF.cell hD.mb 0 (by omega)
      obtain ⟨bm, hbm⟩ : ∃ bm, bm = maj y (mrs l P c j) P := ⟨_, rfl⟩
      have HMj : Hid (∀ wx, wx = X → CallsIn Fence.wide 0 Try.prog 40 #[.int .i64 (y : Nat), .slice (some ⟨GR, 0, none⟩) P cR] wx fun e w' => e = .returned (.bool bm) ∧ Below X.heap.size X w') := fun wx e => by
        subst e; rw [hbm]; exact callsIn_wide.2 (byMaj_any y GR P cR hy32 hPb _ (fun x hx => mrs_lt HL.out.2.2.2.2.1 j x hx) hD.rr)
      have HI : Hid (DcL w w2 gM l K0 P G GR cR bR (fun i => if K0 - j ≤ i then dbt l P c i else 0) (mrs l P c j) X ∧ wy'.heap.size ≤ X.heap.size) := ⟨hD, hs⟩
      have HV : Hid (mrs l P c (j + 1) = (if bm = true then mad y (mrs l P c j) P else mrs l P c j) ∧ dbt l P c t = if bm = true then 1 else 0) := by
        have e1 : l.length - 1 - j = t := ht.symm
        have e2 : l.length - 1 - t = j := by have := HL.out.2.1; omega
        refine ⟨?_, ?_⟩
        · show (if maj (l.getD (l.length - 1 - j) 0) (mrs l P c j) P = true then mad (l.getD (l.length - 1 - j) 0) (mrs l P c j) P else mrs l P c j) = _
          rw [e1, ← hy, ← hbm]
        · unfold dbt
          rw [e2, ← hy, ← hbm]
      have hti0 : (0 : Int) ≤ (t : Int) := by omega
      have htiK : (t : Int) < (K0 : Int) := by omega
      clear hbm hD hs ht hy
      obtain ⟨S0, hS0⟩ : ∃ S0, S0 = wy'.heap.size := ⟨_, rfl⟩
      rw [← hS0] at HI ⊢
      clear hS0
      gi_wp2
      refine ⟨trivial, rfl, (CallsIn.inRound lp (HMj.out X rfl)).mono ?_⟩
      rintro e X1 ⟨rfl, hb1⟩
      have hO := HO.out
      have H1 : Hid (DcL w w2 gM l K0 P G GR cR bR (fun i => if K0 - j ≤ i then dbt l P c i else 0) (mrs l P c j) X1 ∧ S0 ≤ X1.heap.size ∧ Below X.heap.size X X1) := by
        have hx := HI.out.1
        exact ⟨⟨bel_up' hx.bw hb1, hx.mb.keep hb1, hx.rb.keep hb1, hx.rg.below hb1 hx.rg.lt, hx.rr.below hb1 hx.rr.lt, fun j hj => ((bcell hb1).1 _ _ (cell_lt (hx.ls j hj))).trans (hx.ls j hj)⟩, by have := hb1.size; have := HI.out.2; omega, hb1⟩
      clear hb1 hrb hmb HMj hO
      cases bm with
      | true =>
        have HV1 : Hid (mrs l P c (j + 1) = mad y (mrs l P c j) P ∧ dbt l P c t = 1) := ⟨by simpa using HV.out.1, by simpa using HV.out.2⟩
        clear HV
        have hmb := RowF.cell H1.out.1.mb 0 (by omega)
        have hgc := H1.out.1.rg.cell t htK
        have hgf := H1.out.1.rg.free t
        obtain ⟨X2, hX2⟩ : ∃ X2, X2 = X1.setCell ⟨G, t, none⟩ (.int .i64 1) := ⟨_, rfl⟩
        have H2' : Hid (DcL w w2 gM l K0 P G GR cR bR (fun i => if K0 - (j + 1) ≤ i then dbt l P c i else 0) (mrs l P c j) X2 ∧ S0 ≤ X2.heap.size ∧ KpO (fun k => k = G ∨ k = GR) X X2) := by
          have hx := H1.out.1
          have hn := HX.out.2.2.2.2
          have hO := HO.out
          have hTK := HTK.out
          have hh : ∀ k, k ≠ G → X2.heap[k]? = X1.heap[k]? := fun k hk => by rw [hX2]; exact Below.heap_setCell _ _ _ _ hk
          refine ⟨⟨?_, RowF.other hx.mb (hh _ (by omega)), RowF.other hx.rb (hh _ (by omega)), ?_, hx.rr.other (hh _ (by omega)), fun i hi => ?_⟩, ?_, (KpO.of_below H1.out.2.2).trans (by rw [hX2]; exact KpO.setCell _ _ _ (Or.inl rfl))⟩
          · rw [hX2]; exact hx.bw.setCell (by show w.heap.size ≤ G; omega) _
          · rw [hX2]
            refine hx.rg.store t 1 (fun i hi => ?_)
            by_cases e : i = t
            · rw [if_pos (by omega), if_pos e, e, HV1.out.2]
            · rw [if_neg e]
              by_cases e2 : K0 - j ≤ i
              · rw [if_pos (by omega), if_pos e2]
              · rw [if_neg (by omega), if_neg e2]
          · have h5 := hx.ls i hi
            have := hh gM (by omega)
            unfold World.cell? at h5 ⊢
            rw [this]; exact h5
          · rw [hX2]; simp [World.setCell]; exact H1.out.2.1
        have hrb2 := RowF.cell H2'.out.1.rb 0 (by omega)
        rw [hX2] at hrb2
        have HX2 : Hid (X2 = X1.setCell ⟨G, t, none⟩ (.int .i64 1)) := hX2
        clear hX2
        have HAd : Hid (CallsIn Fence.wide 0 Try.prog 33 #[.int .i64 (y : Nat), .slice (some ⟨GR, 0, none⟩) P cR] X2 fun e w' => e = .returned (.tuple #[]) ∧ Row GR P (mad y (mrs l P c j) P) w' ∧ KpO (fun k => k = G ∨ k = GR) X2 w' ∧ Below w.heap.size X2 w' ∧ (G < X2.heap.size → w'.heap[G]? = X2.heap[G]?)) :=
          callsIn_wide.2 (by
            refine (monAdd_kp y GR P cR (by omega) hPb (mrs l P c j) (fun x hx => mrs_lt HL.out.2.2.2.2.1 j x hx) H2'.out.1.rr).mono ?_
            rintro e w' ⟨rfl, q1, q2⟩
            exact ⟨rfl, q1, q2.mono (fun k hk => Or.inr hk), ⟨q2.os, q2.tape, q2.output, q2.size, fun k hk => q2.same k (by have := H2'.out.1.bw.size; omega) (by have := HO.out; omega)⟩, fun hlt => q2.same G hlt (by have := HX.out.2.2.2.2; omega)⟩)
        gi_wp2
        rw [← HX2.out]
        refine ⟨trivial, rfl, (CallsIn.inRound lp HAd.out).mono ?_⟩
        rintro e X3 ⟨rfl, hr3, hk3, hb3, hk3G⟩
        gi_wp2
        have hx := H2'.out.1
        have hn := HX.out.2.2.2.2
        have hO := HO.out
        have hh : ∀ k, k < X2.heap.size → k ≠ G → k ≠ GR → X3.heap[k]? = X2.heap[k]? := fun k k0 k1 k2 => hk3.same k k0 (by omega)
        refine ⟨H2'.out.2.2.trans hk3, ⟨hx.bw.trans hb3, RowF.other hx.mb (hh _ (RowF.lt hx.mb) (by omega) (by omega)), RowF.other hx.rb (hh _ (RowF.lt hx.rb) (by omega) (by omega)), ?_, ?_, fun i hi => ?_⟩, by have := H2'.out.2.1; have := hk3.size; omega⟩
        · exact hx.rg.other (hk3G (hx.rg.lt))
        · rw [HV1.out.1]; exact hr3
        · have h5 := hx.ls i hi
          have h6 := cell_lt h5
          simp only at h6
          have := hh gM h6 (by omega) (by omega)
          unfold World.cell? at h5 ⊢
          rw [this]; exact h5
      | false =>
        have HV0 : Hid (mrs l P c (j + 1) = mrs l P c j ∧ dbt l P c t = 0) := ⟨by simpa using HV.out.1, by simpa using HV.out.2⟩
        clear HV
        gi_wp2
        have hx := H1.out.1
        have hTK := HTK.out
        refine ⟨KpO.of_below H1.out.2.2, ⟨hx.bw, hx.mb, hx.rb, hx.rg.congr (fun i hi => ?_), ?_, hx.ls⟩, H1.out.2.1⟩
        · by_cases e : i = t
          · rw [if_neg (by omega), if_pos (by omega), e, HV0.out.2]
          · by_cases e2 : K0 - j ≤ i
            · rw [if_pos e2, if_pos (show K0 - (j + 1) ≤ i by omega)]
            · rw [if_neg e2, if_neg (show ¬ K0 - (j + 1) ≤ i by omega)]
        · rw [HV0.out.1]; exact hx.rr
    case done =>
      rintro De We hDe ⟨hD, hs⟩ hK
      have hO := HO.out
      obtain ⟨e0, he0⟩ : ∃ e0, e0 = wgt (mrs l P c l.length) P := ⟨_, rfl⟩
      have he0P : e0 ≤ P := by rw [he0]; exact wgt_le _ _
      have HWt : Hid (Calls Try.prog 41 #[.slice (some ⟨GR, 0, none⟩) P cR] We fun e w' => e = .returned (.int .i64 (e0 : Nat)) ∧ w' = We) := by
        have := weightS_any (ca := cR) (a := fun i => ((mrs l P c l.length i : Nat) : Int)) (hD.rr.sl (Nat.le_refl _)).z (by omega)
        rw [wgt_ct P (fun x hx => mrs_lt HL.out.2.2.2.2.1 _ x hx), ← he0] at this
        exact this
      have hrb := RowF.cell hD.rb 0 (by omega)
      have hmb := RowF.cell hD.mb 0 (by omega)
      have hmf := RowF.free hD.mb 0
      obtain ⟨d, hd⟩ : ∃ d, d = m - r := ⟨_, rfl⟩
      have hdi : (m : Int) - (r : Int) = (d : Int) := by omega
      have hd5 : d ≤ 5 := by omega
      obtain ⟨Q0, hQ0⟩ : ∃ Q0, Q0 = 2 ^ d := ⟨_, rfl⟩
      have hshd : (2 : Int) ^ d = (Q0 : Int) := by rw [hQ0]; simp
      have hQb : Q0 ≤ 32 := by rw [hQ0]; exact Nat.pow_le_pow_right (by omega) hd5
      have HE : Hid (e0 = wgt (mrs l P c l.length) P ∧ Q0 = 2 ^ (m - r) ∧ l = mnl m (r + 1)) := ⟨he0, by rw [← hd]; exact hQ0, HL.out.1⟩
      have HDe : Hid (∀ v, BL w.heap.size v (We.setCell ⟨w.heap.size, 0, none⟩ v) ∧ (We.setCell ⟨w.heap.size, 0, none⟩ v).heap[De]? = some (.deferred (some [])) ∧ BL w.heap.size v ((We.setCell ⟨w.heap.size, 0, none⟩ v).putObj De (.deferred none)) ∧ Below w.heap.size w ((We.setCell ⟨w.heap.size, 0, none⟩ v).putObj De (.deferred none)) ∧ w.heap.size ≤ G ∧ Row G K0 (dbt l P c) ((We.setCell ⟨w.heap.size, 0, none⟩ v).putObj De (.deferred none))) := fun v => by
        have hp := hD.mb.put v
        have hq : (We.setCell ⟨w.heap.size, 0, none⟩ v).heap[De]? = some (.deferred (some [])) := by rw [Below.heap_setCell _ _ _ _ (by show De ≠ w.heap.size; omega)]; exact hK
        have hbw : Below w.heap.size w (We.setCell ⟨w.heap.size, 0, none⟩ v) := hD.bw.setCell (Nat.le_refl _) _
        refine ⟨hp, hq, RowF.other hp (World.putObj_heap_other (by omega)), hbw.grown (grownBy_putObj' _ _ _) hbw.size (fun k hk => by cases hk; omega), by omega, ?_⟩
        refine (hD.rg.congr (fun i hi => ?_)).other ?_
        · rw [if_pos (by have := HL.out.2.1; omega)]
        · rw [World.putObj_heap_other (by omega), Below.heap_setCell _ _ _ _ (by show G ≠ w.heap.size; omega)]
      clear he0 hd hQ0 hD hs hK hDe hO
      by_cases hfew : 2 * e0 < Q0
      · have hfi : ¬ (Q0 : Int) ≤ 2 * (e0 : Int) := by omega
        have HF : Hid (2 * e0 < Q0) := hfew
        clear hfew
        go_wp2_with fail
        refine HWt.out.mono ?_
        rintro e w' ⟨rfl, hw⟩
        have hw := hw.symm
        subst hw
        go_wp2
        obtain ⟨q1, q2, q3, q4, q5, q6⟩ := HDe.out (.slice (some ⟨G, 0, none⟩) K0 K0)
        have c1 := RowF.cell q3 0 (by omega)
        refine ⟨by simp, .inl ⟨_, _, rfl, run_takeDeferred q2, ?_⟩⟩
        refine ⟨.tuple #[.slice (some ⟨G, 0, none⟩) K0 K0, .int .i64 (e0 : Nat), .bool true, .int .i64 0], by simp [results, Try.results17, go_sem, c1], ?_⟩
        have hE := HE.out
        unfold DcP
        rw [← hE.2.2, ← hE.1, ← hE.2.1, ← HL.out.2.1]
        exact ⟨q4, Or.inl ⟨HF.out, G, rfl, q5, q6⟩⟩
      · have hfi : (Q0 : Int) ≤ 2 * (e0 : Int) := by omega
        have HF : Hid (¬ 2 * e0 < Q0) := hfew
        clear hfew
        go_wp2_with fail
        refine HWt.out.mono ?_
        rintro e w' ⟨rfl, hw⟩
        have hw := hw.symm
        subst hw
        go_wp2
        obtain ⟨q1, q2, q3, q4, q5, q6⟩ := HDe.out (.slice none 0 0)
        have c1 := RowF.cell q3 0 (by omega)
        refine ⟨by simp, .inl ⟨_, _, rfl, run_takeDeferred q2, ?_⟩⟩
        refine ⟨.tuple #[.slice none 0 0, .int .i64 0, .bool false, .int .i64 0], by simp [results, Try.results17, go_sem, c1], ?_⟩
        have hE := HE.out
        unfold DcP
        rw [← hE.2.2, ← hE.1, ← hE.2.1, ← HL.out.2.1]
        exact ⟨q4, Or.inr ⟨HF.out, rfl⟩⟩
end Go.Proofs.Ytmklnjkallhphaa
