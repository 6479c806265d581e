/- Polar: joined, transform. -/
import Derived.Test.YtbfkacnpbelmlaaZS63
import Derived.Test.YtbfkacnpbelmlaaZI14
import Derived.Test.YtbfkacnpbelmlaaZW13
namespace Go.Proofs.Ytbfkacnpbelmlaa
open Go.RowKit Go.Sort

theorem zl_two (f : Nat → Int) (n : Nat) : ∀ m, zl (n + m) f = zl n f ++ zl m (fun j => f (n + j))
  | 0 => by show zl n f = zl n f ++ []; rw [List.append_nil]
  | m + 1 => by
    rw [← Nat.add_assoc, zl_succ, zl_two f n m, zl_succ, List.append_assoc]

set_option maxHeartbeats 4000000 in
set_option maxRecDepth 100000 in
theorem joined_any {ao bo : Option Addr} {n ca cb : Nat} {x y : Nat → Int} {w : World} (hX : SlZ ao n x w) (hY : SlZ bo n y w) (hlx : LtB ao w.heap.size) (hly : LtB bo w.heap.size) (hn1 : 1 ≤ n) (hn : n ≤ 64) (hx : ∀ i, i < n → Btl (x i)) (hy : ∀ i, i < n → Btl (y i)) :
    Calls Try.prog 46 #[.slice ao n ca, .slice bo n cb] w fun e w' => ∃ v, e = .returned v ∧ OwnI w.heap.size v (zl (n + n) fun i => if i < n then psu (x i) (y i) else y (i - n)) w' ∧ Below w.heap.size w w' := by
  have HS : Hid (Calls Try.prog 51 #[.slice ao n ca, .slice bo n cb] w fun e w' => ∃ g, e = .returned (.slice (some ⟨g, 0, none⟩) n n) ∧ OwnI w.heap.size (.slice (some ⟨g, 0, none⟩) n n) (zl n fun i => psu (x i) (y i)) w' ∧ Below w.heap.size w w') := plsums_any hX hY hlx hly hn hx hy
  have HY : Hid (SlZ bo n y w ∧ LtB bo w.heap.size ∧ (bo = none → cb = 0)) := ⟨hY, hly, fun e => by obtain ⟨b, off, e2, _⟩ := hY 0 (by omega); rw [e] at e2; cases e2⟩
  clear hX hY hlx hly hx hy
  go_enter Try.func46, Try.ntmps46
  go_wp2_with fail
  refine HS.out.mono ?_
  rintro e w1 ⟨g, rfl, hown, hb⟩
  have H1 : Hid (OwnI w.heap.size (.slice (some ⟨g, 0, none⟩) n n) (zl n fun i => psu (x i) (y i)) w1 ∧ Below w.heap.size w w1 ∧ SlZ bo n y w1) := ⟨hown, hb, fun i hi => by
    obtain ⟨b, off, e, q⟩ := HY.out.1 i hi
    exact ⟨b, off, e, (hb.cell (p := ⟨b, off + i, none⟩) (show b < w.heap.size from HY.out.2.1 _ e)).trans q⟩⟩
  have hsz := hb.size
  clear hown hb HS
  go_wp2_with (at_builtin; refine append_ints rfl _ _ rfl w.heap.size _ (zl n fun i => psu (x i) (y i)) rfl H1.out.1 bo n cb y rfl H1.out.2.2 HY.out.2.2 (by rw [zl_len]; omega) hsz ?_; intro v5 w5 hown5 hgrow5)
  have H5 : Hid (OwnI w.heap.size v5 (zl (n + n) fun i => if i < n then psu (x i) (y i) else y (i - n)) w5 ∧ Below w.heap.size w w5) := by
    refine ⟨?_, H1.out.2.1.grown hgrow5 hsz (fun k hk => (H1.out.1.lt k hk).1)⟩
    rw [zl_two, zl_congr (y := fun i => psu (x i) (y i)) (fun j hj => if_pos hj), zl_congr (z := fun j => (fun i => if i < n then psu (x i) (y i) else y (i - n)) (n + j)) (y := y) (fun j hj => by show (if n + j < n then _ else y (n + j - n)) = y j; rw [if_neg (by omega), Nat.add_sub_cancel_left])]
    exact hown5
  clear hown5 hgrow5
  go_ret
  exact ⟨v5, rfl, H5.out⟩

/-- A word of bits where it lies. -/
def Wbt (b off n : Nat) (f : Nat → Nat) (w : World) : Prop := b < w.heap.size ∧ (∀ i, i < n → w.cell? ⟨b, off + i, none⟩ = some (.int .i64 (f i : Nat))) ∧ ∀ i, i < n → f i < 2
theorem Wbt.slz {b off n : Nat} {f : Nat → Nat} {w : World} (h : Wbt b off n f w) : SlZ (some ⟨b, off, none⟩) n (fun i => ((f i : Nat) : Int)) w := fun i hi => ⟨b, off, rfl, h.2.1 i hi⟩
theorem Wbt.below {b off n : Nat} {f : Nat → Nat} {w w' : World} (h : Wbt b off n f w) (hb : Below w.heap.size w w') : Wbt b off n f w' := ⟨Nat.lt_of_lt_of_le h.1 hb.size, fun i hi => (hb.cell (p := ⟨b, off + i, none⟩) h.1).trans (h.2.1 i hi), h.2.2⟩
theorem Wbt.drew {b off n : Nat} {f : Nat → Nat} {w : World} (h : Wbt b off n f w) : Wbt b off n f w.drew := h
theorem Wbt.lo {b off n : Nat} {f : Nat → Nat} {w : World} (h : Wbt b off n f w) {k : Nat} (hk : k ≤ n) : Wbt b off k f w := ⟨h.1, fun i hi => h.2.1 i (by omega), fun i hi => h.2.2 i (by omega)⟩
theorem Wbt.hi {b off n : Nat} {f : Nat → Nat} {w : World} (h : Wbt b off n f w) {k d : Nat} (hk : k + d ≤ n) : Wbt b (off + k) d (fun i => f (i + k)) w := ⟨h.1, fun i hi => by have := h.2.1 (i + k) (by omega); rw [show off + (i + k) = off + k + i by omega] at this; exact this, fun i hi => h.2.2 (i + k) (by omega)⟩
theorem psu_bit {a b : Nat} (ha : a < 2) (hb : b < 2) : psu (a : Int) (b : Int) = (((a + b) % 2 : Nat) : Int) := by
  have h1 : a = 0 ∨ a = 1 := by omega
  have h2 : b = 0 ∨ b = 1 := by omega
  rcases h1 with rfl | rfl <;> rcases h2 with rfl | rfl <;> decide
theorem btl_nat {a : Nat} (h : a < 2) : Btl (a : Int) := by
  have : a = 0 ∨ a = 1 := by omega
  rcases this with rfl | rfl
  · exact Or.inr (Or.inl rfl)
  · exact Or.inr (Or.inr rfl)

set_option maxHeartbeats 8000000 in
set_option maxRecDepth 100000 in
theorem transform_any : ∀ (m : Nat) {b off c : Nat} {f : Nat → Nat} {w : World}, m ≤ 5 → Wbt b off (2 ^ m) f w → 2 ^ m ≤ c → c ≤ 9223372036854775807 →
    Calls Try.prog 33 #[.slice (some ⟨b, off, none⟩) (2 ^ m : Nat) c] w fun e w' => ∃ v, e = .returned v ∧ OwnI w.heap.size v (zl (2 ^ m) fun i => ((ptr m f i : Nat) : Int)) w' ∧ Below w.heap.size w w'
  | 0, b, off, c, f, w, _, hW, hc1, hc2 => by
    have HC : Hid (Calls Try.prog 30 #[.slice (some ⟨b, off, none⟩) 1 c] w fun e w' => ∃ v, e = .returned v ∧ OwnI w.heap.size v (zl 1 fun i => ((f i : Nat) : Int)) w' ∧ Below w.heap.size w w') := cloneI_any hW.slz (by omega) hW.1
    clear hW
    show Calls Try.prog 33 #[.slice (some ⟨b, off, none⟩) 1 c] w fun e w' => ∃ v, e = .returned v ∧ OwnI w.heap.size v (zl 1 fun i => ((f i : Nat) : Int)) w' ∧ Below w.heap.size w w'
    go_enter Try.func33, Try.ntmps33
    go_wp2_with fail
    refine HC.out.mono ?_
    rintro e w1 ⟨v, rfl, h1, h2⟩
    have H1 : Hid (OwnI w.heap.size v (zl 1 fun i => ((f i : Nat) : Int)) w1 ∧ Below w.heap.size w w1) := ⟨h1, h2⟩
    clear h1 h2
    go_wp2
    go_ret
    exact ⟨v, rfl, H1.out⟩
  | m + 1, b, off, c, f, w, hm, hW, hc1, hc2 => by
    obtain ⟨H, hH⟩ : ∃ H, H = 2 ^ m := ⟨_, rfl⟩
    obtain ⟨L, hL⟩ : ∃ L, L = 2 ^ (m + 1) := ⟨_, rfl⟩
    have hLH : L = H + H := by rw [hL, hH, Nat.pow_succ]; omega
    have hH1 : 1 ≤ H := by rw [hH]; exact Nat.pow_pos (by omega)
    have hH16 : H ≤ 16 := by rw [hH]; exact Nat.le_trans (Nat.pow_le_pow_right (by omega) (show m ≤ 4 by omega)) (by decide)
    have HW : Hid (Wbt b off H f w ∧ Wbt b (off + H) H (fun i => f (i + H)) w) := by
      rw [← hL] at hW
      exact ⟨hW.lo (by omega), hW.hi (by omega)⟩
    have HT : Hid (∀ {b off c : Nat} {f : Nat → Nat} {w : World}, Wbt b off H f w → H ≤ c → c ≤ 9223372036854775807 → Calls Try.prog 33 #[.slice (some ⟨b, off, none⟩) (H : Nat) c] w fun e w' => ∃ v, e = .returned v ∧ OwnI w.heap.size v (zl H fun i => ((ptr m f i : Nat) : Int)) w' ∧ Below w.heap.size w w') := fun {b off c f w} h1 h2 h3 => by
      rw [hH] at h1 h2 ⊢; exact transform_any m (by omega) h1 h2 h3
    have HB : Hid ((∀ i, i < H → Btl ((ptr m f i : Nat) : Int)) ∧ ∀ i, i < H → Btl ((ptr m (fun j => f (j + H)) i : Nat) : Int)) := by
      refine ⟨fun j hj => btl_nat ?_, fun j hj => btl_nat ?_⟩
      · rw [hH] at hj; exact ptr_lt m (fun k hk => HW.out.1.2.2 k (by rw [hH]; exact hk)) j hj
      · rw [hH] at hj; exact ptr_lt m (fun k hk => HW.out.2.2.2 k (by rw [hH]; exact hk)) j hj
    have HE : Hid (zl L (fun i => ((ptr (m + 1) f i : Nat) : Int)) = zl (H + H) fun i => if i < H then psu ((ptr m f i : Nat) : Int) ((ptr m (fun j => f (j + H)) i : Nat) : Int) else ((ptr m (fun j => f (j + H)) (i - H) : Nat) : Int)) := by
      show _ = _
      rw [hLH]
      refine zl_congr (fun i hi => ?_)
      have e1 : ∀ j, j < H → ptr m f j < 2 := fun j hj => by rw [hH] at hj; exact ptr_lt m (fun k hk => HW.out.1.2.2 k (by rw [hH]; exact hk)) j hj
      have e2 : ∀ j, j < H → ptr m (fun j => f (j + H)) j < 2 := fun j hj => by rw [hH] at hj; exact ptr_lt m (fun k hk => HW.out.2.2.2 k (by rw [hH]; exact hk)) j hj
      show ((if i < 2 ^ m then (ptr m f i + ptr m (fun j => f (j + 2 ^ m)) i) % 2 else ptr m (fun j => f (j + 2 ^ m)) (i - 2 ^ m) : Nat) : Int) = _
      rw [← hH]
      by_cases e : i < H
      · rw [if_pos e, if_pos e, psu_bit (e1 i e) (e2 i e)]
      · rw [if_neg e, if_neg e]
    rw [← hL] at hc1 ⊢
    rw [HE.out]
    have hLz : ((L : Int) == 1) = false := by rw [beq_eq_false_iff_ne]; omega
    have htd : (L : Int).tdiv 2 = (H : Int) := by rw [Int.tdiv_eq_ediv_of_nonneg (by omega)]; omega
    have hdv : (L : Int) / 2 = (H : Int) := by omega
    have hHw : IntKind.i64.wrap (H : Int) = (H : Int) := wrap_to rfl (by omega)
    have hHL : (H : Int) ≤ (L : Int) := by omega
    have hHc : (H : Int) ≤ (c : Int) := by omega
    have hLc : (L : Int) ≤ (c : Int) := by omega
    have hH0 : (0 : Int) ≤ (H : Int) := by omega
    have hLsub : L - H = H := by omega
    have hcx : ¬ c = H := by omega
    have hcy : ¬ c - H = 0 := by omega
    have hcz : ¬ H = c := by omega
    have HCd : Hid (H ≤ c - H ∧ c - H ≤ 9223372036854775807 ∧ H ≤ c) := ⟨by omega, by omega, by omega⟩
    have hL32 : L ≤ 32 := by omega
    clear hH hL hLH hW HE hc1
    go_enter Try.func33, Try.ntmps33
    go_upto_region 4 with fail
    refine wp_region_noPanic ?_
    refine wp_region_L (S := fun _ => True) [] (by kernel_rfl) ?_
    obtain ⟨x0, hx0⟩ : ∃ x0, x0 = w.drew := ⟨_, rfl⟩
    have F0 : Hid (Below w.heap.size w x0) := by rw [hx0]; exact (Below.refl _ _).drew
    have hS0 : True := trivial
    rw [← hx0]
    clear hx0
    refine wpAnyL_take (i := 0) (v := ?_) (by rw [List.getElem?_toArray]; rfl) (by decide +kernel) (by decide +kernel) (by decide +kernel) (by decide +kernel) (by decide +kernel) (fun _ _ _ h => h) hS0 (Or.inl ⟨by rfl, ?_⟩) ?_
    rotate_left
    · intro wz hSz; go_simp; first | done | with_reducible rfl | rfl
    try simp only [Act.put, List.setIfInBounds_toArray, List.set_cons_zero, List.set_cons_succ]
    refine wpAnyL_take (i := 1) (v := ?_) (by rw [List.getElem?_toArray]; rfl) (by decide +kernel) (by decide +kernel) (by decide +kernel) (by decide +kernel) (by decide +kernel) (fun _ _ _ h => h) hS0 (Or.inl ⟨by rfl, ?_⟩) ?_
    rotate_left
    · intro wz hSz; go_simp; first | done | with_reducible rfl | rfl
    try simp only [Act.put, List.setIfInBounds_toArray, List.set_cons_zero, List.set_cons_succ]
    refine wpAnyL_take (i := 2) (v := ?_) (by rw [List.getElem?_toArray]; rfl) (by decide +kernel) (by decide +kernel) (by decide +kernel) (by decide +kernel) (by decide +kernel) (fun _ _ _ h => h) hS0 (Or.inl ⟨by rfl, ?_⟩) ?_
    rotate_left
    · intro wz hSz; go_simp; first | done | with_reducible rfl | rfl
    try simp only [Act.put, List.setIfInBounds_toArray, List.set_cons_zero, List.set_cons_succ]
    refine wpAnyL_take (i := 4) (v := ?_) (by rw [List.getElem?_toArray]; rfl) (by decide +kernel) (by decide +kernel) (by decide +kernel) (by decide +kernel) (by decide +kernel) (fun _ _ _ h => h) hS0 (Or.inl ⟨by rfl, ?_⟩) ?_
    rotate_left
    · intro wz hSz; go_simp; first | done | with_reducible rfl | rfl
    try simp only [Act.put, List.setIfInBounds_toArray, List.set_cons_zero, List.set_cons_succ]
    refine wpAnyL_take (i := 5) (v := ?_) (by rw [List.getElem?_toArray]; rfl) (by decide +kernel) (by decide +kernel) (by decide +kernel) (by decide +kernel) (by decide +kernel) (fun _ _ _ h => h) hS0 (Or.inl ⟨by rfl, ?_⟩) ?_
    rotate_left
    · intro wz hSz; go_simp; first | done | with_reducible rfl | rfl
    try simp only [Act.put, List.setIfInBounds_toArray, List.set_cons_zero, List.set_cons_succ]
    refine wpAnyL_take (i := 6) (v := ?_) (by rw [List.getElem?_toArray]; rfl) (by decide +kernel) (by decide +kernel) (by decide +kernel) (by decide +kernel) (by decide +kernel) (fun _ _ _ h => h) hS0 (Or.inl ⟨by rfl, ?_⟩) ?_
    rotate_left
    · intro wz hSz; go_simp; first | done | with_reducible rfl | rfl
    try simp only [Act.put, List.setIfInBounds_toArray, List.set_cons_zero, List.set_cons_succ]
    refine wpAnyL_one (i := 3) (by kernel_rfl) (by rw [List.getElem?_toArray]; rfl) (fun K9 hK => ?_)
    have HK : Hid _ := hK
    clear hK
    go_simp
    refine (HT.out (HW.out.1.below F0.out) HCd.out.2.2 hc2).mono ?_
    rintro e x1 ⟨v1, rfl, ho1, hb1⟩
    obtain ⟨ao1, ca1, rfl, hA1⟩ := ho1.argL
    have F1 : Hid (Below w.heap.size w x1 ∧ ArgL ao1 H ca1 (fun i => ((ptr m f i : Nat) : Int)) x1) := ⟨bel_up' F0.out hb1, hA1⟩
    clear ho1 hA1 hb1
    refine HK.out _ _ (fun _ => trivial) ?_
    clear HK K9
    try simp only [Act.put, List.setIfInBounds_toArray, List.set_cons_zero, List.set_cons_succ]
    refine wpAnyL_one (i := 7) (by kernel_rfl) (by rw [List.getElem?_toArray]; rfl) (fun K9 hK => ?_)
    have HK : Hid _ := hK
    clear hK
    go_simp
    refine (HT.out (HW.out.2.below F1.out.1) HCd.out.1 HCd.out.2.1).mono ?_
    rintro e x2 ⟨v2, rfl, ho2, hb2⟩
    obtain ⟨ao2, ca2, rfl, hA2⟩ := ho2.argL
    have F2 : Hid (Below w.heap.size w x2 ∧ ArgL ao2 H ca2 (fun i => ((ptr m (fun j => f (j + H)) i : Nat) : Int)) x2 ∧ SlZ ao1 H (fun i => ((ptr m f i : Nat) : Int)) x2 ∧ LtB ao1 x2.heap.size) := ⟨bel_up' F1.out.1 hb2, hA2, slz_below F1.out.2.sl hb2, F1.out.2.lt.mono hb2.size⟩
    clear ho2 hA2 hb2
    refine HK.out _ _ (fun _ => trivial) ?_
    clear HK K9
    try simp only [Act.put, List.setIfInBounds_toArray, List.set_cons_zero, List.set_cons_succ]
    refine wpAnyL_one (i := 8) (by kernel_rfl) (by rw [List.getElem?_toArray]; rfl) (fun K9 hK => ?_)
    have HK : Hid _ := hK
    clear hK
    go_simp
    refine (joined_any F2.out.2.2.1 F2.out.2.1.sl F2.out.2.2.2 F2.out.2.1.lt hH1 (by omega) HB.out.1 HB.out.2).mono ?_
    rintro e x3 ⟨v3, rfl, ho3, hb3⟩
    have F3 : Hid (∃ v, Ending.returned v3 = .returned v ∧ OwnI w.heap.size v (zl (H + H) fun i => if i < H then psu ((ptr m f i : Nat) : Int) ((ptr m (fun j => f (j + H)) i : Nat) : Int) else ((ptr m (fun j => f (j + H)) (i - H) : Nat) : Int)) x3 ∧ Below w.heap.size w x3) := ⟨v3, rfl, ho3.mono F2.out.1.size, bel_up' F2.out.1 hb3⟩
    clear ho3 hb3
    refine HK.out _ _ (fun _ => trivial) ?_
    clear HK K9
    try simp only [Act.put, List.setIfInBounds_toArray, List.set_cons_zero, List.set_cons_succ]
    refine wpAnyL_take (i := 9) (v := ?_) (by rw [List.getElem?_toArray]; rfl) (by decide +kernel) (by decide +kernel) (by decide +kernel) (by decide +kernel) (by decide +kernel) (fun _ _ _ h => h) hS0 (Or.inl ⟨by rfl, ?_⟩) ?_
    rotate_left
    · intro wz hSz; go_simp; first | done | with_reducible rfl | rfl
    try simp only [Act.put, List.setIfInBounds_toArray, List.set_cons_zero, List.set_cons_succ]
    refine wpAnyL_done (by kernel_rfl) (NoPanic.normal ?_)
    go_wp2
    go_ret
    exact F3.out
end Go.Proofs.Ytbfkacnpbelmlaa
