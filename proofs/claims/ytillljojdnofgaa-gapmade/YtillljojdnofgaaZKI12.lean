/- Words that may lose a bit: all words that become a word by losing one bit (gap.longer; printed by make/ki11.py). -/
import Derived.Test.YtillljojdnofgaaZKI11
namespace Go.Proofs.Ytillljojdnofgaa
open Go.RowKit Go.Sort

/-- One of three. -/
def p3 {α : Type} (a b c : α) : Nat → α
  | 0 => a
  | 1 => b
  | _ => c
theorem many3 {B : Nat} {x0 x1 x2 : Option Addr} {n0 n1 n2 c0 c1 c2 : Nat} {z0 z1 z2 : Nat → Int} {w : World} (h0 : w.cell? ⟨B, 0, none⟩ = some (.slice x0 n0 c0)) (h1 : w.cell? ⟨B, 1, none⟩ = some (.slice x1 n1 c1)) (h2 : w.cell? ⟨B, 2, none⟩ = some (.slice x2 n2 c2)) (s0 : SlZ x0 n0 z0 w) (s1 : SlZ x1 n1 z1 w) (s2 : SlZ x2 n2 z2 w) (e0 : x0 = none → c0 = 0) (e1 : x1 = none → c1 = 0) (e2 : x2 = none → c2 = 0) : ManyL B 3 (p3 x0 x1 x2) (p3 n0 n1 n2) (p3 c0 c1 c2) (p3 z0 z1 z2) w := fun r hr =>
  match r, hr with
  | 0, _ => ⟨h0, s0, e0⟩
  | 1, _ => ⟨h1, s1, e1⟩
  | 2, _ => ⟨h2, s2, e2⟩
  | r + 3, h => absurd h (by omega)
/-- The first k words that become a word by losing a bit: at each place a 0, then a 1. -/
def lgL (f : Nat → Nat) : Nat → List (Nat → Nat)
  | 0 => []
  | k + 1 => lgL f k ++ [wib (k / 2) (k % 2) f]
theorem lgL_len (f : Nat → Nat) : ∀ k, (lgL f k).length = k
  | 0 => rfl
  | k + 1 => by show (lgL f k ++ [_]).length = k + 1; rw [List.length_append, lgL_len]; rfl
theorem lgL_mem {f c : Nat → Nat} : ∀ k, c ∈ lgL f k ↔ ∃ i, i < k ∧ c = wib (i / 2) (i % 2) f
  | 0 => ⟨fun h => (by cases h), fun ⟨i, h, _⟩ => absurd h (by omega)⟩
  | k + 1 => by
    show c ∈ lgL f k ++ [_] ↔ _
    rw [List.mem_append, lgL_mem k, List.mem_singleton]
    constructor
    · rintro (⟨i, hi, e⟩ | e)
      · exact ⟨i, by omega, e⟩
      · exact ⟨k, by omega, e⟩
    · rintro ⟨i, hi, e⟩
      by_cases h : i = k
      · exact Or.inr (by rw [e, h])
      · exact Or.inl ⟨i, by omega, e⟩
theorem zl_wib (i b n : Nat) (f : Nat → Nat) (hi : i ≤ n) : ((([] : List Int) ++ zl i (fun j => ((f j : Nat) : Int))) ++ zl 1 (fun _ => ((b : Nat) : Int))) ++ zl (n - i) (fun j => ((f (i + j) : Nat) : Int)) = wz (n + 1) (wib i b f) := by
  rw [List.nil_append]
  apply List.ext_getElem?
  intro j
  by_cases h1 : j < i
  · rw [List.getElem?_append_left (by rw [List.length_append, zl_len]; omega), List.getElem?_append_left (by rw [zl_len]; exact h1), zl_get _ _ _ h1]
    unfold wz
    rw [zl_get _ _ _ (by omega), wib_lo h1]
  · by_cases h2 : j = i
    · subst h2
      rw [List.getElem?_append_left (by rw [List.length_append, zl_len, zl_len]; omega), List.getElem?_append_right (by rw [zl_len]; omega), zl_len, Nat.sub_self, zl_get _ _ _ (by omega)]
      unfold wz
      rw [zl_get _ _ _ (by omega), wib_at]
    · obtain ⟨t, rfl⟩ : ∃ t, j = t + 1 := ⟨j - 1, by omega⟩
      rw [List.getElem?_append_right (by rw [List.length_append, zl_len, zl_len]; omega), List.length_append, zl_len, zl_len]
      unfold wz
      by_cases h3 : t + 1 < n + 1
      · rw [zl_get _ _ _ (by omega), zl_get _ _ _ h3, wib_hi (by omega), show i + (t + 1 - (i + 1)) = t by omega]
      · rw [List.getElem?_eq_none (by rw [zl_len]; omega), List.getElem?_eq_none (by rw [zl_len]; omega)]

set_option maxHeartbeats 16000000 in
set_option maxRecDepth 100000 in
theorem longer_any {ao : Option Addr} {n ca : Nat} {f : Nat → Nat} {w : World} (hA : ArgL ao n ca (fun j => ((f j : Nat) : Int)) w) (hn : n ≤ 12) :
    Calls Try.prog 77 #[.slice ao n ca] w fun e w' => ∃ v, e = .returned v ∧ WLs w.heap.size v (n + 1) (lgL f (2 * (n + 1))) w' ∧ Below w.heap.size w w' := by
  have HA : Hid (ArgL ao n ca (fun j => ((f j : Nat) : Int)) w) := hA
  have hnc : n ≤ ca := hA.le
  have hca2 : ca ≤ 9223372036854775807 := hA.cap
  have hnil : ao = none → ca = 0 := hA.nil
  obtain ⟨n1, hn1⟩ : ∃ n1, n1 = n + 1 := ⟨_, rfl⟩
  have wn1 : IntKind.i64.wrap ((n : Int) + 1) = (n1 : Int) := wrap_to (by omega) (by omega)
  have HN1 : Hid (n1 = n + 1) := hn1
  have hn1a : n < n1 := by omega
  have hn1b : n1 ≤ n + 1 := by omega
  rw [← hn1]
  clear hA hn1
  go_enter Try.func77, Try.ntmps77
  go_wp2
  go_loopw [3, 9] (fun vo vi wr => ∃ i : Nat, i ≤ n1 ∧ vi = .int .i64 (i : Nat) ∧ Hid (WLs w.heap.size vo n1 (lgL f (2 * i)) wr ∧ Below w.heap.size w wr)) (fun _ vi _ => n1 - (intOf vi).toNat)
  case atStart => exact ⟨0, by omega, rfl, WLs.nil _ _ _, Below.refl _ _⟩
  case round =>
    obtain ⟨i, hi, rfl, HI⟩ := hrel
    rename World => wi
    by_cases hlt : i < n1
    · have hib : (i : Int) < (n1 : Int) := by omega
      go_wp2
      go_loopw [3, 12] (fun vo vb wr => ∃ b : Nat, b ≤ 2 ∧ vb = .int .i64 (b : Nat) ∧ Hid (WLs w.heap.size vo n1 (lgL f (2 * i + b)) wr ∧ Below w.heap.size w wr)) (fun _ vb _ => 2 - (intOf vb).toNat)
      case atStart => exact ⟨0, by omega, rfl, HI.out⟩
      case round =>
        obtain ⟨b, hb, rfl, HG⟩ := hrel
        rename World => wr
        by_cases hbl : b < 2
        · have hbb : (b : Int) < 2 := by omega
          have hS0 := slz_below HA.out.sl HG.out.2
          have hlx0 : LtB ao wr.heap.size := HA.out.lt.mono HG.out.2.size
          obtain ⟨K0, hK0⟩ : ∃ K0, K0 = 2 * i + b := ⟨_, rfl⟩
          have HK0 : Hid (K0 = 2 * i + b) := hK0
          have HGL : WLs w.heap.size u3 n1 (lgL f K0) wr := by rw [hK0]; exact HG.out.1
          obtain ⟨lst, hov, hln, hels⟩ := HGL
          have hll : lst.length + 1 ≤ 1000000 := by rw [hln, lgL_len]; omega
          have HL : Hid (OwnV w.heap.size u3 lst wr ∧ lst.length = (lgL f K0).length ∧ (∀ (j : Nat) (u : Value) (c : Nat → Nat), lst[j]? = some u → (lgL f K0)[j]? = some c → OwnI w.heap.size u (wz n1 c) wr)) := ⟨hov, hln, hels⟩
          have HNx : Hid (lgL f (K0 + 1) = lgL f K0 ++ [wib i b f]) := by
            show lgL f K0 ++ [wib (K0 / 2) (K0 % 2) f] = _
            rw [show K0 / 2 = i by omega, show K0 % 2 = b by omega]
          have hib0 : (0 : Int) ≤ (i : Int) := by omega
          have h1 : (i : Int) ≤ (ca : Int) := by omega
          have h3 : (i : Int) ≤ (n : Int) := by omega
          have h4 : (n : Int) ≤ (ca : Int) := by omega
          have hszr := HG.out.2.size
          have HX : Hid (SlZ ao n (fun j => ((f j : Nat) : Int)) wr) := hS0
          clear hS0 hov hln hels hK0
          cases ao with
          | none =>
            have HZ0 : ca = 0 := hnil rfl
            have hca : i = ca := by omega
            have HZ : Hid (i = 0) := by show i = 0; omega
            subst hca
            clear hnil HZ0
            go_wp2
            refine wp_region_noPanic ?_
            refine wp_region_X (S := fun _ => True) 13 (by kernel_rfl) ?_
            refine wpAnyX_take (i := 0) (v := ?_) (by rw [List.getElem?_toArray]; rfl) (by kernel_rfl) (by kernel_rfl) (by kernel_rfl) (by kernel_rfl) (fun _ _ _ h => h) True.intro (Or.inl ⟨by rfl, ?_⟩) ?_
            rotate_left
            · intro wz hSz; go_simp; first | done | with_reducible rfl | (simp only [hib0, h1, h3, h4, Nat.sub_self, if_true, if_false, and_self]; first | done | with_reducible rfl)
            try simp only [Act.put, List.setIfInBounds_toArray, List.set_cons_zero, List.set_cons_succ]
            refine wpAnyX_take (i := 1) (v := ?_) (by rw [List.getElem?_toArray]; rfl) (by kernel_rfl) (by kernel_rfl) (by kernel_rfl) (by kernel_rfl) (fun _ _ _ h => h) True.intro (Or.inl ⟨by rfl, ?_⟩) ?_
            rotate_left
            · intro wz hSz; go_simp; first | done | with_reducible rfl | (simp only [hib0, h1, h3, h4, Nat.sub_self, if_true, if_false, and_self]; first | done | with_reducible rfl)
            try simp only [Act.put, List.setIfInBounds_toArray, List.set_cons_zero, List.set_cons_succ]
            refine wpAnyX_take (i := 2) (v := ?_) (by rw [List.getElem?_toArray]; rfl) (by kernel_rfl) (by kernel_rfl) (by kernel_rfl) (by kernel_rfl) (fun _ _ _ h => h) True.intro (Or.inl ⟨by rfl, ?_⟩) ?_
            rotate_left
            · intro wz hSz; go_simp; first | done | with_reducible rfl | (simp only [hib0, h1, h3, h4, Nat.sub_self, if_true, if_false, and_self]; first | done | with_reducible rfl)
            try simp only [Act.put, List.setIfInBounds_toArray, List.set_cons_zero, List.set_cons_succ]
            refine wpAnyX_take (i := 3) (v := ?_) (by rw [List.getElem?_toArray]; rfl) (by kernel_rfl) (by kernel_rfl) (by kernel_rfl) (by kernel_rfl) (fun _ _ _ h => h) True.intro (Or.inl ⟨by rfl, ?_⟩) ?_
            rotate_left
            · intro wz hSz; go_simp; first | done | with_reducible rfl | (simp only [hib0, h1, h3, h4, Nat.sub_self, if_true, if_false, and_self]; first | done | with_reducible rfl)
            try simp only [Act.put, List.setIfInBounds_toArray, List.set_cons_zero, List.set_cons_succ]
            refine wpAnyX_take (i := 4) (v := ?_) (by rw [List.getElem?_toArray]; rfl) (by kernel_rfl) (by kernel_rfl) (by kernel_rfl) (by kernel_rfl) (fun _ _ _ h => h) True.intro (Or.inl ⟨by rfl, ?_⟩) ?_
            rotate_left
            · intro wz hSz; go_simp; first | done | with_reducible rfl | (simp only [hib0, h1, h3, h4, Nat.sub_self, if_true, if_false, and_self]; first | done | with_reducible rfl)
            try simp only [Act.put, List.setIfInBounds_toArray, List.set_cons_zero, List.set_cons_succ]
            refine wpAnyX_take (i := 6) (v := ?_) (by rw [List.getElem?_toArray]; rfl) (by kernel_rfl) (by kernel_rfl) (by kernel_rfl) (by kernel_rfl) (fun _ _ _ h => h) True.intro (Or.inl ⟨by rfl, ?_⟩) ?_
            rotate_left
            · intro wz hSz; go_simp; first | done | with_reducible rfl | (simp only [hib0, h1, h3, h4, Nat.sub_self, if_true, if_false, and_self]; first | done | with_reducible rfl)
            try simp only [Act.put, List.setIfInBounds_toArray, List.set_cons_zero, List.set_cons_succ]
            refine wpAnyX_take (i := 7) (v := ?_) (by rw [List.getElem?_toArray]; rfl) (by kernel_rfl) (by kernel_rfl) (by kernel_rfl) (by kernel_rfl) (fun _ _ _ h => h) True.intro (Or.inl ⟨by rfl, ?_⟩) ?_
            rotate_left
            · intro wz hSz; go_simp; first | done | with_reducible rfl | (simp only [hib0, h1, h3, h4, Nat.sub_self, if_true, if_false, and_self]; first | done | with_reducible rfl)
            try simp only [Act.put, List.setIfInBounds_toArray, List.set_cons_zero, List.set_cons_succ]
            refine wpAnyX_take (i := 8) (v := ?_) (by rw [List.getElem?_toArray]; rfl) (by kernel_rfl) (by kernel_rfl) (by kernel_rfl) (by kernel_rfl) (fun _ _ _ h => h) True.intro (Or.inl ⟨by rfl, ?_⟩) ?_
            rotate_left
            · intro wz hSz; go_simp; first | done | with_reducible rfl | (simp only [hib0, h1, h3, h4, Nat.sub_self, if_true, if_false, and_self]; first | done | with_reducible rfl)
            try simp only [Act.put, List.setIfInBounds_toArray, List.set_cons_zero, List.set_cons_succ]
            refine wpAnyX_one (i := 5) (by kernel_rfl) (by rw [List.getElem?_toArray]; rfl) (fun K hK => ?_)
            have HK : Hid _ := hK
            clear hK
            go_simp
            obtain ⟨w4, hw4⟩ : ∃ w4, w4 = (wr.alloc (.cells #[.int .i64 (b : Nat)] 3)).drew := ⟨_, rfl⟩
            obtain ⟨g4, hg4⟩ : ∃ g4, g4 = wr.heap.size := ⟨_, rfl⟩
            have H4 : Hid (Below wr.heap.size wr w4 ∧ w4.cell? ⟨g4, 0, none⟩ = some (.int .i64 (b : Nat))) := ⟨by rw [hw4]; exact ((Below.refl _ _).alloc (Nat.le_refl _) _).drew, by rw [hw4, hg4]; simp⟩
            rw [← hw4, ← hg4]
            refine HK.out _ _ (fun _ => True.intro) ?_
            clear HK K hw4 hg4
            try simp only [Act.put, List.setIfInBounds_toArray, List.set_cons_zero, List.set_cons_succ]
            refine wpAnyX_one (i := 9) (by kernel_rfl) (by rw [List.getElem?_toArray]; rfl) (fun K hK => ?_)
            have HK : Hid _ := hK
            clear hK
            go_simp
            obtain ⟨we, hwe⟩ : ∃ we, we = w4.alloc (.cells #[.slice none i i, .slice (some ⟨g4, 0, none⟩) 1 1, .slice none 0 0] 22) := ⟨_, rfl⟩
            obtain ⟨ge, hge⟩ : ∃ ge, ge = w4.heap.size := ⟨_, rfl⟩
            have HE : Hid (Below wr.heap.size wr we ∧ ∃ x0 x2 c0 c2, ManyL ge 3 (p3 x0 (some ⟨g4, 0, none⟩) x2) (p3 i 1 (n - i)) (p3 c0 1 c2) (p3 (fun j => ((f j : Nat) : Int)) (fun _ => ((b : Nat) : Int)) (fun j => ((f (i + j) : Nat) : Int))) we) := by
              have hb4 : Below w4.heap.size w4 we := by rw [hwe]; exact (Below.refl _ _).alloc (Nat.le_refl _) _
              have hb : Below wr.heap.size wr we := bel_up' H4.out.1 hb4
              have hS := slz_below HX.out hb
              have h1c := slz_below (SlZ.one H4.out.2) hb4
              refine ⟨hb, ?_⟩
              refine ⟨none, none, i, 0, ?_⟩
              rw [show n - i = 0 by omega]
              exact many3 (by rw [hge, hwe]; simp) (by rw [hge, hwe]; simp) (by rw [hge, hwe]; simp) (fun j hj => absurd hj (by have := HZ.out; omega)) h1c (fun j hj => absurd hj (by omega)) (fun _ => HZ.out) (fun e => by cases e) (fun _ => rfl)
            rw [← hwe, ← hge]
            refine HK.out _ _ (fun _ => True.intro) ?_
            clear HK K hwe hge
            try simp only [Act.put, List.setIfInBounds_toArray, List.set_cons_zero, List.set_cons_succ]
            refine wpAnyX_one (i := 10) (by kernel_rfl) (by rw [List.getElem?_toArray]; rfl) (fun K hK => ?_)
            have HK : Hid _ := hK
            clear hK
            go_simp
            obtain ⟨x0, x2, c0, c2, hML⟩ := HE.out.2
            refine (concatK hML (by omega) (by show 0 + i + 1 + (n - i) ≤ 1000; omega)).mono ?_
            clear hML
            rintro e w5 ⟨v5, rfl, ho5, hb5⟩
            have ho5 : OwnI we.heap.size v5 (wz n1 (wib i b f)) w5 := by
              have h : OwnI we.heap.size v5 (((([] : List Int) ++ zl i (fun j => ((f j : Nat) : Int))) ++ zl 1 (fun _ => ((b : Nat) : Int))) ++ zl (n - i) (fun j => ((f (i + j) : Nat) : Int))) w5 := ho5
              rw [zl_wib i b n f (by omega), ← HN1.out] at h; exact h
            obtain ⟨vo, vc, hv5, _⟩ := OwnI.argL (n := n1) (y := fun j => ((wib i b f j : Nat) : Int)) ho5
            subst hv5
            have hb5r : Below wr.heap.size wr w5 := bel_up' HE.out.1 hb5
            have H5 : Hid (OwnV w.heap.size u3 lst w5 ∧ lst.length = (lgL f K0).length ∧ (∀ (j : Nat) (u : Value) (c : Nat → Nat), lst[j]? = some u → (lgL f K0)[j]? = some c → OwnI w.heap.size u (wz n1 c) w5) ∧ OwnI w.heap.size (.slice vo n1 vc) (wz n1 (wib i b f)) w5 ∧ Below w.heap.size w w5) := ⟨HL.out.1.below hb5r (Nat.le_refl _), HL.out.2.1, fun j u c hu hc => (HL.out.2.2 j u c hu hc).below hb5r fun q hq => ((HL.out.2.2 j u c hu hc).lt q hq).2, ho5.mono (Nat.le_trans hszr HE.out.1.size), bel_up' HG.out.2 hb5r⟩
            clear ho5 hb5 hb5r
            refine HK.out _ _ (fun _ => True.intro) ?_
            clear HK K
            try simp only [Act.put, List.setIfInBounds_toArray, List.set_cons_zero, List.set_cons_succ]
            refine wpAnyX_one (i := 11) (by kernel_rfl) (by rw [List.getElem?_toArray]; rfl) (fun K hK => ?_)
            have HK : Hid _ := hK
            clear hK
            go_simp
            obtain ⟨wf, hwf⟩ : ∃ wf, wf = w5.alloc (.cells #[.slice vo n1 vc] 22) := ⟨_, rfl⟩
            have hal : Below w5.heap.size w5 wf := by rw [hwf]; exact (Below.refl _ _).alloc (Nat.le_refl _) _
            have HF5 : Hid (OwnV w.heap.size u3 lst wf ∧ lst.length = (lgL f K0).length ∧ (∀ (j : Nat) (u : Value) (c : Nat → Nat), lst[j]? = some u → (lgL f K0)[j]? = some c → OwnI w.heap.size u (wz n1 c) wf) ∧ OwnI w.heap.size (.slice vo n1 vc) (wz n1 (wib i b f)) wf ∧ Below w.heap.size w wf ∧ SlV (some ⟨w5.heap.size, 0, none⟩) 1 (fun _ => .slice vo n1 vc) wf) := ⟨H5.out.1.below hal (Nat.le_refl _), H5.out.2.1, fun j u c hu hc => (H5.out.2.2.1 j u c hu hc).below hal fun q hq => ((H5.out.2.2.1 j u c hu hc).lt q hq).2, H5.out.2.2.2.1.below hal fun q hq => (H5.out.2.2.2.1.lt q hq).2, bel_up' H5.out.2.2.2.2 hal, fun j hj => ⟨_, 0, rfl, by rw [hwf, show 0 + j = 0 by omega, cell_of_row _ _ _ _ _ (0, 0) (two_new _)]; rfl⟩⟩
            rw [← hwf]
            clear hwf hal
            refine HK.out _ _ (fun _ => True.intro) ?_
            clear HK K
            try simp only [Act.put, List.setIfInBounds_toArray, List.set_cons_zero, List.set_cons_succ]
            refine wpAnyX_one (i := 12) (by kernel_rfl) (by rw [List.getElem?_toArray]; rfl) (fun K hK => ?_)
            have HK : Hid _ := hK
            clear hK
            refine step_append_sls (by rfl) _ _ (by rfl) w.heap.size u3 lst (by rfl) HF5.out.1 (some ⟨w5.heap.size, 0, none⟩) 1 1 (fun _ => .slice vo n1 vc) (by rfl) HF5.out.2.2.2.2.2 (fun _ _ => rfl) (fun e => by cases e) hll HF5.out.2.2.2.2.1.size w HF5.out.2.2.2.2.1 (Nat.le_refl _) ?_
            intro v' w6 hown6 hg6 hb6
            have H6 : Hid (WLs w.heap.size v' n1 (lgL f (K0 + 1)) w6 ∧ Below w.heap.size w w6) := by
              refine ⟨?_, hb6⟩
              rw [HNx.out]
              have hp := wl_push HF5.out.1 HF5.out.2.1 HF5.out.2.2.1 HF5.out.2.2.2.1 hg6
              exact ⟨_, hown6, hp.1, hp.2⟩
            clear hown6 hg6 hb6
            refine HK.out _ _ (fun _ => True.intro) ?_
            clear HK K
            try simp only [Act.put, List.setIfInBounds_toArray, List.set_cons_zero, List.set_cons_succ]
            refine wpAnyX_one (i := 13) (by kernel_rfl) (by rw [List.getElem?_toArray]; rfl) (fun K hK => ?_)
            have HK : Hid _ := hK
            clear hK
            go_simp
            refine HK.out _ _ (fun h => absurd rfl h) ?_
            clear HK K
            try simp only [Act.put, List.setIfInBounds_toArray, List.set_cons_zero, List.set_cons_succ]
            refine wpAnyX_done (by kernel_rfl) (NoPanic.normal ?_)
            have H7 : Hid (WLs w.heap.size v' n1 (lgL f (2 * i + (b + 1))) w6 ∧ Below w.heap.size w w6) := by
              have h := H6.out
              rw [show K0 + 1 = 2 * i + (b + 1) by have := HK0.out; omega] at h; exact h
            go_wp2
            go_roundw
            case rel => exact ⟨b + 1, by omega, by go_num, H7.out⟩
            case measure => simp [intOf]; omega
          | some ad =>
            obtain ⟨bx, ox, px⟩ := ad
            clear hnil
            by_cases hca : i = ca
            · subst hca
              go_wp2
              refine wp_region_noPanic ?_
              refine wp_region_X (S := fun _ => True) 13 (by kernel_rfl) ?_
              refine wpAnyX_take (i := 0) (v := ?_) (by rw [List.getElem?_toArray]; rfl) (by kernel_rfl) (by kernel_rfl) (by kernel_rfl) (by kernel_rfl) (fun _ _ _ h => h) True.intro (Or.inl ⟨by rfl, ?_⟩) ?_
              rotate_left
              · intro wz hSz; go_simp; first | done | with_reducible rfl | (simp only [hib0, h1, h3, h4, Nat.sub_self, if_true, if_false, and_self]; first | done | with_reducible rfl)
              try simp only [Act.put, List.setIfInBounds_toArray, List.set_cons_zero, List.set_cons_succ]
              refine wpAnyX_take (i := 1) (v := ?_) (by rw [List.getElem?_toArray]; rfl) (by kernel_rfl) (by kernel_rfl) (by kernel_rfl) (by kernel_rfl) (fun _ _ _ h => h) True.intro (Or.inl ⟨by rfl, ?_⟩) ?_
              rotate_left
              · intro wz hSz; go_simp; first | done | with_reducible rfl | (simp only [hib0, h1, h3, h4, Nat.sub_self, if_true, if_false, and_self]; first | done | with_reducible rfl)
              try simp only [Act.put, List.setIfInBounds_toArray, List.set_cons_zero, List.set_cons_succ]
              refine wpAnyX_take (i := 2) (v := ?_) (by rw [List.getElem?_toArray]; rfl) (by kernel_rfl) (by kernel_rfl) (by kernel_rfl) (by kernel_rfl) (fun _ _ _ h => h) True.intro (Or.inl ⟨by rfl, ?_⟩) ?_
              rotate_left
              · intro wz hSz; go_simp; first | done | with_reducible rfl | (simp only [hib0, h1, h3, h4, Nat.sub_self, if_true, if_false, and_self]; first | done | with_reducible rfl)
              try simp only [Act.put, List.setIfInBounds_toArray, List.set_cons_zero, List.set_cons_succ]
              refine wpAnyX_take (i := 3) (v := ?_) (by rw [List.getElem?_toArray]; rfl) (by kernel_rfl) (by kernel_rfl) (by kernel_rfl) (by kernel_rfl) (fun _ _ _ h => h) True.intro (Or.inl ⟨by rfl, ?_⟩) ?_
              rotate_left
              · intro wz hSz; go_simp; first | done | with_reducible rfl | (simp only [hib0, h1, h3, h4, Nat.sub_self, if_true, if_false, and_self]; first | done | with_reducible rfl)
              try simp only [Act.put, List.setIfInBounds_toArray, List.set_cons_zero, List.set_cons_succ]
              refine wpAnyX_take (i := 4) (v := ?_) (by rw [List.getElem?_toArray]; rfl) (by kernel_rfl) (by kernel_rfl) (by kernel_rfl) (by kernel_rfl) (fun _ _ _ h => h) True.intro (Or.inl ⟨by rfl, ?_⟩) ?_
              rotate_left
              · intro wz hSz; go_simp; first | done | with_reducible rfl | (simp only [hib0, h1, h3, h4, Nat.sub_self, if_true, if_false, and_self]; first | done | with_reducible rfl)
              try simp only [Act.put, List.setIfInBounds_toArray, List.set_cons_zero, List.set_cons_succ]
              refine wpAnyX_take (i := 6) (v := ?_) (by rw [List.getElem?_toArray]; rfl) (by kernel_rfl) (by kernel_rfl) (by kernel_rfl) (by kernel_rfl) (fun _ _ _ h => h) True.intro (Or.inl ⟨by rfl, ?_⟩) ?_
              rotate_left
              · intro wz hSz; go_simp; first | done | with_reducible rfl | (simp only [hib0, h1, h3, h4, Nat.sub_self, if_true, if_false, and_self]; first | done | with_reducible rfl)
              try simp only [Act.put, List.setIfInBounds_toArray, List.set_cons_zero, List.set_cons_succ]
              refine wpAnyX_take (i := 7) (v := ?_) (by rw [List.getElem?_toArray]; rfl) (by kernel_rfl) (by kernel_rfl) (by kernel_rfl) (by kernel_rfl) (fun _ _ _ h => h) True.intro (Or.inl ⟨by rfl, ?_⟩) ?_
              rotate_left
              · intro wz hSz; go_simp; first | done | with_reducible rfl | (simp only [hib0, h1, h3, h4, Nat.sub_self, if_true, if_false, and_self]; first | done | with_reducible rfl)
              try simp only [Act.put, List.setIfInBounds_toArray, List.set_cons_zero, List.set_cons_succ]
              refine wpAnyX_take (i := 8) (v := ?_) (by rw [List.getElem?_toArray]; rfl) (by kernel_rfl) (by kernel_rfl) (by kernel_rfl) (by kernel_rfl) (fun _ _ _ h => h) True.intro (Or.inl ⟨by rfl, ?_⟩) ?_
              rotate_left
              · intro wz hSz; go_simp; first | done | with_reducible rfl | (simp only [hib0, h1, h3, h4, Nat.sub_self, if_true, if_false, and_self]; first | done | with_reducible rfl)
              try simp only [Act.put, List.setIfInBounds_toArray, List.set_cons_zero, List.set_cons_succ]
              refine wpAnyX_one (i := 5) (by kernel_rfl) (by rw [List.getElem?_toArray]; rfl) (fun K hK => ?_)
              have HK : Hid _ := hK
              clear hK
              go_simp
              obtain ⟨w4, hw4⟩ : ∃ w4, w4 = (wr.alloc (.cells #[.int .i64 (b : Nat)] 3)).drew := ⟨_, rfl⟩
              obtain ⟨g4, hg4⟩ : ∃ g4, g4 = wr.heap.size := ⟨_, rfl⟩
              have H4 : Hid (Below wr.heap.size wr w4 ∧ w4.cell? ⟨g4, 0, none⟩ = some (.int .i64 (b : Nat))) := ⟨by rw [hw4]; exact ((Below.refl _ _).alloc (Nat.le_refl _) _).drew, by rw [hw4, hg4]; simp⟩
              rw [← hw4, ← hg4]
              refine HK.out _ _ (fun _ => True.intro) ?_
              clear HK K hw4 hg4
              try simp only [Act.put, List.setIfInBounds_toArray, List.set_cons_zero, List.set_cons_succ]
              refine wpAnyX_one (i := 9) (by kernel_rfl) (by rw [List.getElem?_toArray]; rfl) (fun K hK => ?_)
              have HK : Hid _ := hK
              clear hK
              go_simp
              obtain ⟨we, hwe⟩ : ∃ we, we = w4.alloc (.cells #[.slice (some ⟨bx, ox, px⟩) i i, .slice (some ⟨g4, 0, none⟩) 1 1, .slice (some ⟨bx, ox, px⟩) 0 0] 22) := ⟨_, rfl⟩
              obtain ⟨ge, hge⟩ : ∃ ge, ge = w4.heap.size := ⟨_, rfl⟩
              have HE : Hid (Below wr.heap.size wr we ∧ ∃ x0 x2 c0 c2, ManyL ge 3 (p3 x0 (some ⟨g4, 0, none⟩) x2) (p3 i 1 (n - i)) (p3 c0 1 c2) (p3 (fun j => ((f j : Nat) : Int)) (fun _ => ((b : Nat) : Int)) (fun j => ((f (i + j) : Nat) : Int))) we) := by
                have hb4 : Below w4.heap.size w4 we := by rw [hwe]; exact (Below.refl _ _).alloc (Nat.le_refl _) _
                have hb : Below wr.heap.size wr we := bel_up' H4.out.1 hb4
                have hS := slz_below HX.out hb
                have h1c := slz_below (SlZ.one H4.out.2) hb4
                refine ⟨hb, ?_⟩
                refine ⟨some ⟨bx, ox, px⟩, some ⟨bx, ox, px⟩, i, 0, ?_⟩
                rw [show n - i = 0 by omega]
                exact many3 (by rw [hge, hwe]; simp) (by rw [hge, hwe]; simp) (by rw [hge, hwe]; simp) (fun j hj => hS j (by omega)) h1c (fun j hj => absurd hj (by omega)) (fun e => by cases e) (fun e => by cases e) (fun e => by cases e)
              rw [← hwe, ← hge]
              refine HK.out _ _ (fun _ => True.intro) ?_
              clear HK K hwe hge
              try simp only [Act.put, List.setIfInBounds_toArray, List.set_cons_zero, List.set_cons_succ]
              refine wpAnyX_one (i := 10) (by kernel_rfl) (by rw [List.getElem?_toArray]; rfl) (fun K hK => ?_)
              have HK : Hid _ := hK
              clear hK
              go_simp
              obtain ⟨x0, x2, c0, c2, hML⟩ := HE.out.2
              refine (concatK hML (by omega) (by show 0 + i + 1 + (n - i) ≤ 1000; omega)).mono ?_
              clear hML
              rintro e w5 ⟨v5, rfl, ho5, hb5⟩
              have ho5 : OwnI we.heap.size v5 (wz n1 (wib i b f)) w5 := by
                have h : OwnI we.heap.size v5 (((([] : List Int) ++ zl i (fun j => ((f j : Nat) : Int))) ++ zl 1 (fun _ => ((b : Nat) : Int))) ++ zl (n - i) (fun j => ((f (i + j) : Nat) : Int))) w5 := ho5
                rw [zl_wib i b n f (by omega), ← HN1.out] at h; exact h
              obtain ⟨vo, vc, hv5, _⟩ := OwnI.argL (n := n1) (y := fun j => ((wib i b f j : Nat) : Int)) ho5
              subst hv5
              have hb5r : Below wr.heap.size wr w5 := bel_up' HE.out.1 hb5
              have H5 : Hid (OwnV w.heap.size u3 lst w5 ∧ lst.length = (lgL f K0).length ∧ (∀ (j : Nat) (u : Value) (c : Nat → Nat), lst[j]? = some u → (lgL f K0)[j]? = some c → OwnI w.heap.size u (wz n1 c) w5) ∧ OwnI w.heap.size (.slice vo n1 vc) (wz n1 (wib i b f)) w5 ∧ Below w.heap.size w w5) := ⟨HL.out.1.below hb5r (Nat.le_refl _), HL.out.2.1, fun j u c hu hc => (HL.out.2.2 j u c hu hc).below hb5r fun q hq => ((HL.out.2.2 j u c hu hc).lt q hq).2, ho5.mono (Nat.le_trans hszr HE.out.1.size), bel_up' HG.out.2 hb5r⟩
              clear ho5 hb5 hb5r
              refine HK.out _ _ (fun _ => True.intro) ?_
              clear HK K
              try simp only [Act.put, List.setIfInBounds_toArray, List.set_cons_zero, List.set_cons_succ]
              refine wpAnyX_one (i := 11) (by kernel_rfl) (by rw [List.getElem?_toArray]; rfl) (fun K hK => ?_)
              have HK : Hid _ := hK
              clear hK
              go_simp
              obtain ⟨wf, hwf⟩ : ∃ wf, wf = w5.alloc (.cells #[.slice vo n1 vc] 22) := ⟨_, rfl⟩
              have hal : Below w5.heap.size w5 wf := by rw [hwf]; exact (Below.refl _ _).alloc (Nat.le_refl _) _
              have HF5 : Hid (OwnV w.heap.size u3 lst wf ∧ lst.length = (lgL f K0).length ∧ (∀ (j : Nat) (u : Value) (c : Nat → Nat), lst[j]? = some u → (lgL f K0)[j]? = some c → OwnI w.heap.size u (wz n1 c) wf) ∧ OwnI w.heap.size (.slice vo n1 vc) (wz n1 (wib i b f)) wf ∧ Below w.heap.size w wf ∧ SlV (some ⟨w5.heap.size, 0, none⟩) 1 (fun _ => .slice vo n1 vc) wf) := ⟨H5.out.1.below hal (Nat.le_refl _), H5.out.2.1, fun j u c hu hc => (H5.out.2.2.1 j u c hu hc).below hal fun q hq => ((H5.out.2.2.1 j u c hu hc).lt q hq).2, H5.out.2.2.2.1.below hal fun q hq => (H5.out.2.2.2.1.lt q hq).2, bel_up' H5.out.2.2.2.2 hal, fun j hj => ⟨_, 0, rfl, by rw [hwf, show 0 + j = 0 by omega, cell_of_row _ _ _ _ _ (0, 0) (two_new _)]; rfl⟩⟩
              rw [← hwf]
              clear hwf hal
              refine HK.out _ _ (fun _ => True.intro) ?_
              clear HK K
              try simp only [Act.put, List.setIfInBounds_toArray, List.set_cons_zero, List.set_cons_succ]
              refine wpAnyX_one (i := 12) (by kernel_rfl) (by rw [List.getElem?_toArray]; rfl) (fun K hK => ?_)
              have HK : Hid _ := hK
              clear hK
              refine step_append_sls (by rfl) _ _ (by rfl) w.heap.size u3 lst (by rfl) HF5.out.1 (some ⟨w5.heap.size, 0, none⟩) 1 1 (fun _ => .slice vo n1 vc) (by rfl) HF5.out.2.2.2.2.2 (fun _ _ => rfl) (fun e => by cases e) hll HF5.out.2.2.2.2.1.size w HF5.out.2.2.2.2.1 (Nat.le_refl _) ?_
              intro v' w6 hown6 hg6 hb6
              have H6 : Hid (WLs w.heap.size v' n1 (lgL f (K0 + 1)) w6 ∧ Below w.heap.size w w6) := by
                refine ⟨?_, hb6⟩
                rw [HNx.out]
                have hp := wl_push HF5.out.1 HF5.out.2.1 HF5.out.2.2.1 HF5.out.2.2.2.1 hg6
                exact ⟨_, hown6, hp.1, hp.2⟩
              clear hown6 hg6 hb6
              refine HK.out _ _ (fun _ => True.intro) ?_
              clear HK K
              try simp only [Act.put, List.setIfInBounds_toArray, List.set_cons_zero, List.set_cons_succ]
              refine wpAnyX_one (i := 13) (by kernel_rfl) (by rw [List.getElem?_toArray]; rfl) (fun K hK => ?_)
              have HK : Hid _ := hK
              clear hK
              go_simp
              refine HK.out _ _ (fun h => absurd rfl h) ?_
              clear HK K
              try simp only [Act.put, List.setIfInBounds_toArray, List.set_cons_zero, List.set_cons_succ]
              refine wpAnyX_done (by kernel_rfl) (NoPanic.normal ?_)
              have H7 : Hid (WLs w.heap.size v' n1 (lgL f (2 * i + (b + 1))) w6 ∧ Below w.heap.size w w6) := by
                have h := H6.out
                rw [show K0 + 1 = 2 * i + (b + 1) by have := HK0.out; omega] at h; exact h
              go_wp2
              go_roundw
              case rel => exact ⟨b + 1, by omega, by go_num, H7.out⟩
              case measure => simp [intOf]; omega
            · have hca : ¬ ca = i := fun e => hca e.symm
              go_wp2
              refine wp_region_noPanic ?_
              refine wp_region_X (S := fun _ => True) 13 (by kernel_rfl) ?_
              refine wpAnyX_take (i := 0) (v := ?_) (by rw [List.getElem?_toArray]; rfl) (by kernel_rfl) (by kernel_rfl) (by kernel_rfl) (by kernel_rfl) (fun _ _ _ h => h) True.intro (Or.inl ⟨by rfl, ?_⟩) ?_
              rotate_left
              · intro wz hSz; go_simp; first | done | with_reducible rfl | (simp only [hib0, h1, h3, h4, hca, if_true, if_false, and_self]; first | done | with_reducible rfl)
              try simp only [Act.put, List.setIfInBounds_toArray, List.set_cons_zero, List.set_cons_succ]
              refine wpAnyX_take (i := 1) (v := ?_) (by rw [List.getElem?_toArray]; rfl) (by kernel_rfl) (by kernel_rfl) (by kernel_rfl) (by kernel_rfl) (fun _ _ _ h => h) True.intro (Or.inl ⟨by rfl, ?_⟩) ?_
              rotate_left
              · intro wz hSz; go_simp; first | done | with_reducible rfl | (simp only [hib0, h1, h3, h4, hca, if_true, if_false, and_self]; first | done | with_reducible rfl)
              try simp only [Act.put, List.setIfInBounds_toArray, List.set_cons_zero, List.set_cons_succ]
              refine wpAnyX_take (i := 2) (v := ?_) (by rw [List.getElem?_toArray]; rfl) (by kernel_rfl) (by kernel_rfl) (by kernel_rfl) (by kernel_rfl) (fun _ _ _ h => h) True.intro (Or.inl ⟨by rfl, ?_⟩) ?_
              rotate_left
              · intro wz hSz; go_simp; first | done | with_reducible rfl | (simp only [hib0, h1, h3, h4, hca, if_true, if_false, and_self]; first | done | with_reducible rfl)
              try simp only [Act.put, List.setIfInBounds_toArray, List.set_cons_zero, List.set_cons_succ]
              refine wpAnyX_take (i := 3) (v := ?_) (by rw [List.getElem?_toArray]; rfl) (by kernel_rfl) (by kernel_rfl) (by kernel_rfl) (by kernel_rfl) (fun _ _ _ h => h) True.intro (Or.inl ⟨by rfl, ?_⟩) ?_
              rotate_left
              · intro wz hSz; go_simp; first | done | with_reducible rfl | (simp only [hib0, h1, h3, h4, hca, if_true, if_false, and_self]; first | done | with_reducible rfl)
              try simp only [Act.put, List.setIfInBounds_toArray, List.set_cons_zero, List.set_cons_succ]
              refine wpAnyX_take (i := 4) (v := ?_) (by rw [List.getElem?_toArray]; rfl) (by kernel_rfl) (by kernel_rfl) (by kernel_rfl) (by kernel_rfl) (fun _ _ _ h => h) True.intro (Or.inl ⟨by rfl, ?_⟩) ?_
              rotate_left
              · intro wz hSz; go_simp; first | done | with_reducible rfl | (simp only [hib0, h1, h3, h4, hca, if_true, if_false, and_self]; first | done | with_reducible rfl)
              try simp only [Act.put, List.setIfInBounds_toArray, List.set_cons_zero, List.set_cons_succ]
              refine wpAnyX_take (i := 6) (v := ?_) (by rw [List.getElem?_toArray]; rfl) (by kernel_rfl) (by kernel_rfl) (by kernel_rfl) (by kernel_rfl) (fun _ _ _ h => h) True.intro (Or.inl ⟨by rfl, ?_⟩) ?_
              rotate_left
              · intro wz hSz; go_simp; first | done | with_reducible rfl | (simp only [hib0, h1, h3, h4, hca, if_true, if_false, and_self]; first | done | with_reducible rfl)
              try simp only [Act.put, List.setIfInBounds_toArray, List.set_cons_zero, List.set_cons_succ]
              refine wpAnyX_take (i := 7) (v := ?_) (by rw [List.getElem?_toArray]; rfl) (by kernel_rfl) (by kernel_rfl) (by kernel_rfl) (by kernel_rfl) (fun _ _ _ h => h) True.intro (Or.inl ⟨by rfl, ?_⟩) ?_
              rotate_left
              · intro wz hSz; go_simp; first | done | with_reducible rfl | (simp only [hib0, h1, h3, h4, hca, if_true, if_false, and_self]; first | done | with_reducible rfl)
              try simp only [Act.put, List.setIfInBounds_toArray, List.set_cons_zero, List.set_cons_succ]
              refine wpAnyX_take (i := 8) (v := ?_) (by rw [List.getElem?_toArray]; rfl) (by kernel_rfl) (by kernel_rfl) (by kernel_rfl) (by kernel_rfl) (fun _ _ _ h => h) True.intro (Or.inl ⟨by rfl, ?_⟩) ?_
              rotate_left
              · intro wz hSz; go_simp; first | done | with_reducible rfl | (simp only [hib0, h1, h3, h4, hca, if_true, if_false, and_self]; first | done | with_reducible rfl)
              try simp only [Act.put, List.setIfInBounds_toArray, List.set_cons_zero, List.set_cons_succ]
              refine wpAnyX_one (i := 5) (by kernel_rfl) (by rw [List.getElem?_toArray]; rfl) (fun K hK => ?_)
              have HK : Hid _ := hK
              clear hK
              go_simp
              obtain ⟨w4, hw4⟩ : ∃ w4, w4 = (wr.alloc (.cells #[.int .i64 (b : Nat)] 3)).drew := ⟨_, rfl⟩
              obtain ⟨g4, hg4⟩ : ∃ g4, g4 = wr.heap.size := ⟨_, rfl⟩
              have H4 : Hid (Below wr.heap.size wr w4 ∧ w4.cell? ⟨g4, 0, none⟩ = some (.int .i64 (b : Nat))) := ⟨by rw [hw4]; exact ((Below.refl _ _).alloc (Nat.le_refl _) _).drew, by rw [hw4, hg4]; simp⟩
              rw [← hw4, ← hg4]
              refine HK.out _ _ (fun _ => True.intro) ?_
              clear HK K hw4 hg4
              try simp only [Act.put, List.setIfInBounds_toArray, List.set_cons_zero, List.set_cons_succ]
              refine wpAnyX_one (i := 9) (by kernel_rfl) (by rw [List.getElem?_toArray]; rfl) (fun K hK => ?_)
              have HK : Hid _ := hK
              clear hK
              go_simp
              obtain ⟨we, hwe⟩ : ∃ we, we = w4.alloc (.cells #[.slice (some ⟨bx, ox, px⟩) i ca, .slice (some ⟨g4, 0, none⟩) 1 1, .slice (some (Addr.add ⟨bx, ox, px⟩ i)) (n - i) (ca - i)] 22) := ⟨_, rfl⟩
              obtain ⟨ge, hge⟩ : ∃ ge, ge = w4.heap.size := ⟨_, rfl⟩
              have HE : Hid (Below wr.heap.size wr we ∧ ∃ x0 x2 c0 c2, ManyL ge 3 (p3 x0 (some ⟨g4, 0, none⟩) x2) (p3 i 1 (n - i)) (p3 c0 1 c2) (p3 (fun j => ((f j : Nat) : Int)) (fun _ => ((b : Nat) : Int)) (fun j => ((f (i + j) : Nat) : Int))) we) := by
                have hb4 : Below w4.heap.size w4 we := by rw [hwe]; exact (Below.refl _ _).alloc (Nat.le_refl _) _
                have hb : Below wr.heap.size wr we := bel_up' H4.out.1 hb4
                have hS := slz_below HX.out hb
                have h1c := slz_below (SlZ.one H4.out.2) hb4
                refine ⟨hb, ?_⟩
                refine ⟨some ⟨bx, ox, px⟩, some (Addr.add ⟨bx, ox, px⟩ i), ca, ca - i, ?_⟩
                refine many3 (by rw [hge, hwe]; simp) (by rw [hge, hwe]; simp) (by rw [hge, hwe]; simp) (fun j hj => hS j (by omega)) h1c (fun j hj => ?_) (fun e => by cases e) (fun e => by cases e) (fun e => by cases e)
                obtain ⟨b1, o1, e1, hc1⟩ := hS (i + j) (by omega)
                cases e1
                exact ⟨bx, ox + i, by rw [add_off], by rw [show ox + i + j = ox + (i + j) by omega]; exact hc1⟩
              rw [← hwe, ← hge]
              refine HK.out _ _ (fun _ => True.intro) ?_
              clear HK K hwe hge
              try simp only [Act.put, List.setIfInBounds_toArray, List.set_cons_zero, List.set_cons_succ]
              refine wpAnyX_one (i := 10) (by kernel_rfl) (by rw [List.getElem?_toArray]; rfl) (fun K hK => ?_)
              have HK : Hid _ := hK
              clear hK
              go_simp
              obtain ⟨x0, x2, c0, c2, hML⟩ := HE.out.2
              refine (concatK hML (by omega) (by show 0 + i + 1 + (n - i) ≤ 1000; omega)).mono ?_
              clear hML
              rintro e w5 ⟨v5, rfl, ho5, hb5⟩
              have ho5 : OwnI we.heap.size v5 (wz n1 (wib i b f)) w5 := by
                have h : OwnI we.heap.size v5 (((([] : List Int) ++ zl i (fun j => ((f j : Nat) : Int))) ++ zl 1 (fun _ => ((b : Nat) : Int))) ++ zl (n - i) (fun j => ((f (i + j) : Nat) : Int))) w5 := ho5
                rw [zl_wib i b n f (by omega), ← HN1.out] at h; exact h
              obtain ⟨vo, vc, hv5, _⟩ := OwnI.argL (n := n1) (y := fun j => ((wib i b f j : Nat) : Int)) ho5
              subst hv5
              have hb5r : Below wr.heap.size wr w5 := bel_up' HE.out.1 hb5
              have H5 : Hid (OwnV w.heap.size u3 lst w5 ∧ lst.length = (lgL f K0).length ∧ (∀ (j : Nat) (u : Value) (c : Nat → Nat), lst[j]? = some u → (lgL f K0)[j]? = some c → OwnI w.heap.size u (wz n1 c) w5) ∧ OwnI w.heap.size (.slice vo n1 vc) (wz n1 (wib i b f)) w5 ∧ Below w.heap.size w w5) := ⟨HL.out.1.below hb5r (Nat.le_refl _), HL.out.2.1, fun j u c hu hc => (HL.out.2.2 j u c hu hc).below hb5r fun q hq => ((HL.out.2.2 j u c hu hc).lt q hq).2, ho5.mono (Nat.le_trans hszr HE.out.1.size), bel_up' HG.out.2 hb5r⟩
              clear ho5 hb5 hb5r
              refine HK.out _ _ (fun _ => True.intro) ?_
              clear HK K
              try simp only [Act.put, List.setIfInBounds_toArray, List.set_cons_zero, List.set_cons_succ]
              refine wpAnyX_one (i := 11) (by kernel_rfl) (by rw [List.getElem?_toArray]; rfl) (fun K hK => ?_)
              have HK : Hid _ := hK
              clear hK
              go_simp
              obtain ⟨wf, hwf⟩ : ∃ wf, wf = w5.alloc (.cells #[.slice vo n1 vc] 22) := ⟨_, rfl⟩
              have hal : Below w5.heap.size w5 wf := by rw [hwf]; exact (Below.refl _ _).alloc (Nat.le_refl _) _
              have HF5 : Hid (OwnV w.heap.size u3 lst wf ∧ lst.length = (lgL f K0).length ∧ (∀ (j : Nat) (u : Value) (c : Nat → Nat), lst[j]? = some u → (lgL f K0)[j]? = some c → OwnI w.heap.size u (wz n1 c) wf) ∧ OwnI w.heap.size (.slice vo n1 vc) (wz n1 (wib i b f)) wf ∧ Below w.heap.size w wf ∧ SlV (some ⟨w5.heap.size, 0, none⟩) 1 (fun _ => .slice vo n1 vc) wf) := ⟨H5.out.1.below hal (Nat.le_refl _), H5.out.2.1, fun j u c hu hc => (H5.out.2.2.1 j u c hu hc).below hal fun q hq => ((H5.out.2.2.1 j u c hu hc).lt q hq).2, H5.out.2.2.2.1.below hal fun q hq => (H5.out.2.2.2.1.lt q hq).2, bel_up' H5.out.2.2.2.2 hal, fun j hj => ⟨_, 0, rfl, by rw [hwf, show 0 + j = 0 by omega, cell_of_row _ _ _ _ _ (0, 0) (two_new _)]; rfl⟩⟩
              rw [← hwf]
              clear hwf hal
              refine HK.out _ _ (fun _ => True.intro) ?_
              clear HK K
              try simp only [Act.put, List.setIfInBounds_toArray, List.set_cons_zero, List.set_cons_succ]
              refine wpAnyX_one (i := 12) (by kernel_rfl) (by rw [List.getElem?_toArray]; rfl) (fun K hK => ?_)
              have HK : Hid _ := hK
              clear hK
              refine step_append_sls (by rfl) _ _ (by rfl) w.heap.size u3 lst (by rfl) HF5.out.1 (some ⟨w5.heap.size, 0, none⟩) 1 1 (fun _ => .slice vo n1 vc) (by rfl) HF5.out.2.2.2.2.2 (fun _ _ => rfl) (fun e => by cases e) hll HF5.out.2.2.2.2.1.size w HF5.out.2.2.2.2.1 (Nat.le_refl _) ?_
              intro v' w6 hown6 hg6 hb6
              have H6 : Hid (WLs w.heap.size v' n1 (lgL f (K0 + 1)) w6 ∧ Below w.heap.size w w6) := by
                refine ⟨?_, hb6⟩
                rw [HNx.out]
                have hp := wl_push HF5.out.1 HF5.out.2.1 HF5.out.2.2.1 HF5.out.2.2.2.1 hg6
                exact ⟨_, hown6, hp.1, hp.2⟩
              clear hown6 hg6 hb6
              refine HK.out _ _ (fun _ => True.intro) ?_
              clear HK K
              try simp only [Act.put, List.setIfInBounds_toArray, List.set_cons_zero, List.set_cons_succ]
              refine wpAnyX_one (i := 13) (by kernel_rfl) (by rw [List.getElem?_toArray]; rfl) (fun K hK => ?_)
              have HK : Hid _ := hK
              clear hK
              go_simp
              refine HK.out _ _ (fun h => absurd rfl h) ?_
              clear HK K
              try simp only [Act.put, List.setIfInBounds_toArray, List.set_cons_zero, List.set_cons_succ]
              refine wpAnyX_done (by kernel_rfl) (NoPanic.normal ?_)
              have H7 : Hid (WLs w.heap.size v' n1 (lgL f (2 * i + (b + 1))) w6 ∧ Below w.heap.size w w6) := by
                have h := H6.out
                rw [show K0 + 1 = 2 * i + (b + 1) by have := HK0.out; omega] at h; exact h
              go_wp2
              go_roundw
              case rel => exact ⟨b + 1, by omega, by go_num, H7.out⟩
              case measure => simp [intOf]; omega
        · have hbb : ¬ (b : Int) < 2 := by omega
          have HE : Hid (WLs w.heap.size u3 n1 (lgL f (2 * (i + 1))) wr ∧ Below w.heap.size w wr) := by
            have h := HG.out
            rw [show 2 * i + b = 2 * (i + 1) by omega] at h; exact h
          go_wp2
          go_roundw
          case rel => exact ⟨i + 1, by omega, by go_num, HE.out⟩
          case measure => simp [intOf]; omega
    · have hib : ¬ (i : Int) < (n1 : Int) := by omega
      have HE : Hid (WLs w.heap.size u3 n1 (lgL f (2 * n1)) wi ∧ Below w.heap.size w wi) := by
        have h := HI.out
        rw [show i = n1 by omega] at h; exact h
      go_wp2
      go_ret
      exact ⟨_, rfl, HE.out⟩
end Go.Proofs.Ytillljojdnofgaa
