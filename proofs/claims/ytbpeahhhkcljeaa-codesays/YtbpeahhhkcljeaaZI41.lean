/- CodeSays: a code without a place, shortened, extended (the law's helper codeTurned). -/
import Derived.Test.YtbpeahhhkcljeaaZI39
import Derived.Test.YtbpeahhhkcljeaaZI40
import Derived.Test.YtbpeahhhkcljeaaZI36
import Derived.Test.YtbpeahhhkcljeaaZI14
namespace Go.Proofs.Ytbpeahhhkcljeaa
open Go.RowKit Go.Sort

/-- Only one form keeps K. -/
def UniF (K : Nat → (Nat → Nat → Nat) → Prop) : Prop := ∀ k R k' R', K k R → K k' R' → k = k' ∧ ∀ i, i < k → R i = R' i
/-- A code that the reference tells, where S says 0: of K's one form. -/
def ToldR (S q : Int) (nn base : Nat) (K : Nat → (Nat → Nat → Nat) → Prop) (qa na : Int) (o : Option Addr) (k c : Nat) (w : World) : Prop := S = 0 → qa = q ∧ na = ((nn + 1 : Nat) : Int) ∧ k ≤ 64 ∧ ∃ R, LLs base (.slice o k c) (rl k nn R) w ∧ K k R
/-- A code that the program tells. -/
def ToldP (S q : Int) (nn : Nat) (K : Nat → (Nat → Nat → Nat) → Prop) (qa na : Int) (o : Option Addr) (k c : Nat) (w : World) : Prop := (S = 0 → qa = q ∧ na = ((nn + 1 : Nat) : Int) ∧ k ≤ 64 ∧ ∃ R, RL (.slice o k c) k (nn + 1) R w ∧ K k R) ∧ (S ≠ 0 → qa = 0 ∧ na = 0 ∧ o = none ∧ k = 0 ∧ c = 0)
theorem ToldR.below {S q : Int} {nn base : Nat} {K : Nat → (Nat → Nat → Nat) → Prop} {qa na : Int} {o : Option Addr} {k c : Nat} {w w' : World} (h : ToldR S q nn base K qa na o k c w) (hb : Below w.heap.size w w') : ToldR S q nn base K qa na o k c w' := fun e => by
  obtain ⟨h1, h2, h3, R, h4, h5⟩ := h e
  exact ⟨h1, h2, h3, R, h4.below hb (Nat.le_refl _), h5⟩
theorem ToldR.laid {S q : Int} {nn base : Nat} {K : Nat → (Nat → Nat → Nat) → Prop} {qa na : Int} {o : Option Addr} {k c b : Nat} {w : World} (h : ToldR S q nn base K qa na o k c w) (ht : RBt b w) (x y : Int) (u : Value) : ToldR S q nn base K qa na o k c (laid w b x y u) := fun e => by
  obtain ⟨h1, h2, h3, R, h4, h5⟩ := h e
  exact ⟨h1, h2, h3, R, h4.laid ht x y u, h5⟩
theorem ToldP.below {S q : Int} {nn : Nat} {K : Nat → (Nat → Nat → Nat) → Prop} {qa na : Int} {o : Option Addr} {k c : Nat} {w w' : World} (h : ToldP S q nn K qa na o k c w) (hb : Below w.heap.size w w') : ToldP S q nn K qa na o k c w' := ⟨fun e => by
  obtain ⟨h1, h2, h3, R, h4, h5⟩ := h.1 e
  exact ⟨h1, h2, h3, R, h4.below hb, h5⟩, h.2⟩
theorem lsame_told {S q : Int} {nn base : Nat} {K : Nat → (Nat → Nat → Nat) → Prop} (hu : UniF K) (hn : nn ≤ 1000) {qa na qb nb : Int} {o o' : Option Addr} {k c k' c' : Nat} {w : World} (hp : ToldP S q nn K qa na o k c w) (hr : ToldR S q nn base K qb nb o' k' c' w) :
    Calls Try.prog 27 #[.agg #[.int .i64 qa, .int .i64 na, .slice o k c], .int .i64 S, .agg #[.int .i64 qb, .int .i64 nb, .slice o' k' c'], .int .i64 S] w fun e w' => e = .returned (.bool true) ∧ Below w.heap.size w w' := by
  by_cases hS : S = 0
  · obtain ⟨rfl, rfl, h3, R, h4, h5⟩ := hp.1 hS
    obtain ⟨rfl, rfl, g3, R', g4, g5⟩ := hr hS
    obtain ⟨rfl, he⟩ := hu _ _ _ _ h5 g5
    subst hS
    exact lsame_ok _ _ h4 ((g4.rlz (by omega)).rl.congr (fun i hi => (he i hi).symm)) (by omega) (by omega)
  · obtain ⟨rfl, rfl, rfl, rfl, rfl⟩ := hp.2 hS
    exact lsame_err S hS qb nb o' k' c' w

set_option maxHeartbeats 16000000 in
set_option maxRecDepth 100000 in
theorem codeTurned_any (E q n a S1 S T : Int) {ao : Option Addr} {m ca nn1 nn3 : Nat} {w : World} {K1 K2 K3 : Nat → (Nat → Nat → Nat) → Prop} (u1 : UniF K1) (u2 : UniF K2) (u3 : UniF K3) (hn1 : nn1 ≤ 1000) (hn3 : nn3 ≤ 1000)
    (hS1 : S1 = if E = 0 ∧ (a < 0 ∨ n ≤ a) then 10 else E) (hS : S = if S1 = 0 ∧ n = 1 then 4 else S1) (hT : T = if E = 0 ∧ n = 64 then 4 else E)
    (hR1 : S = 0 → ∀ wx, Below w.heap.size w wx → Calls Try.prog 73 #[.agg #[.int .i64 q, .int .i64 n, .slice ao m ca], .int .i64 a] wx fun e w' => ∃ qa na o k c, e = .returned (.agg #[.int .i64 qa, .int .i64 na, .slice o k c]) ∧ ToldR 0 q nn1 w.heap.size K1 qa na o k c w' ∧ Below wx.heap.size wx w')
    (hR2 : S = 0 → ∀ wx, Below w.heap.size w wx → Calls Try.prog 74 #[.agg #[.int .i64 q, .int .i64 n, .slice ao m ca], .int .i64 a] wx fun e w' => ∃ qa na o k c, e = .returned (.agg #[.int .i64 qa, .int .i64 na, .slice o k c]) ∧ ToldR 0 q nn1 w.heap.size K2 qa na o k c w' ∧ Below wx.heap.size wx w')
    (hR3 : T = 0 → ∀ wx, Below w.heap.size w wx → Calls Try.prog 75 #[.agg #[.int .i64 q, .int .i64 n, .slice ao m ca]] wx fun e w' => ∃ qa na o k c, e = .returned (.agg #[.int .i64 qa, .int .i64 na, .slice o k c]) ∧ ToldR 0 q nn3 w.heap.size K3 qa na o k c w' ∧ Below wx.heap.size wx w')
    (hP1 : ∀ wx, Below w.heap.size w wx → Calls Try.prog 76 #[.agg #[.int .i64 q, .int .i64 n, .slice ao m ca], .int .i64 a] wx fun e w' => ∃ qa na o k c, e = .returned (.tuple #[.agg #[.int .i64 qa, .int .i64 na, .slice o k c], .int .i64 S]) ∧ ToldP S q nn1 K1 qa na o k c w' ∧ Below wx.heap.size wx w')
    (hP2 : ∀ wx, Below w.heap.size w wx → Calls Try.prog 77 #[.agg #[.int .i64 q, .int .i64 n, .slice ao m ca], .int .i64 a] wx fun e w' => ∃ qa na o k c, e = .returned (.tuple #[.agg #[.int .i64 qa, .int .i64 na, .slice o k c], .int .i64 S]) ∧ ToldP S q nn1 K2 qa na o k c w' ∧ Below wx.heap.size wx w')
    (hP3 : ∀ wx, Below w.heap.size w wx → Calls Try.prog 78 #[.agg #[.int .i64 q, .int .i64 n, .slice ao m ca]] wx fun e w' => ∃ qa na o k c, e = .returned (.tuple #[.agg #[.int .i64 qa, .int .i64 na, .slice o k c], .int .i64 T]) ∧ ToldP T q nn3 K3 qa na o k c w' ∧ Below wx.heap.size wx w') :
    Calls Try.prog 33 #[.agg #[.int .i64 q, .int .i64 n, .slice ao m ca], .int .i64 a, .int .i64 E] w fun r w' => r = .returned (.bool true) ∧ Below w.heap.size w w' := by
  obtain ⟨w0, hw0⟩ : ∃ w0, w0 = w.alloc (.cells #[.int .i64 q, .int .i64 n, .slice ao m ca] 43) := ⟨_, rfl⟩
  have HW : Hid (Below w.heap.size w w0 ∧ CB w.heap.size q n (.slice ao m ca) w0 ∧ w0.heap.size = w.heap.size + 1) := by
    rw [hw0]; exact box_at q n (.slice ao m ca) w
  have HU : Hid (UniF K1 ∧ UniF K2 ∧ UniF K3 ∧ nn1 ≤ 1000 ∧ nn3 ≤ 1000) := ⟨u1, u2, u3, hn1, hn3⟩
  have HR1 : Hid _ := hR1
  have HR2 : Hid _ := hR2
  have HR3 : Hid _ := hR3
  have HP1 : Hid _ := hP1
  have HP2 : Hid _ := hP2
  have HP3 : Hid _ := hP3
  have HS1 : Hid (S1 = if E = 0 ∧ (a < 0 ∨ n ≤ a) then 10 else E) := hS1
  have HS : Hid (S = if S1 = 0 ∧ n = 1 then 4 else S1) := hS
  have HT : Hid (T = if E = 0 ∧ n = 64 then 4 else E) := hT
  obtain ⟨b30, hb30⟩ : ∃ b, b = decide (E = 0 ∧ (a < 0 ∨ n ≤ a)) := ⟨_, rfl⟩
  have HB30 : Hid (b30 = decide (E = 0 ∧ (a < 0 ∨ n ≤ a))) := hb30
  obtain ⟨b37, hb37⟩ : ∃ b, b = decide (S1 = 0 ∧ n = 1) := ⟨_, rfl⟩
  have HB37 : Hid (b37 = decide (S1 = 0 ∧ n = 1)) := hb37
  obtain ⟨b45, hb45⟩ : ∃ b, b = decide (E = 0 ∧ n = 64) := ⟨_, rfl⟩
  have HB45 : Hid (b45 = decide (E = 0 ∧ n = 64)) := hb45
  clear u1 u2 u3 hn1 hn3 hR1 hR2 hR3 hP1 hP2 hP3 hS1 hS hT hb30 hb37 hb45
  obtain ⟨p0, p1, p2⟩ : CB w.heap.size q n (.slice ao m ca) w0 := HW.out.2.1
  go_enter Try.func33, Try.ntmps33
  go_upto_region 2 with fail
  rw [← hw0]
  clear hw0
  go_cut [30] (fun vb wx => vb = .bool b30 ∧ wx = w0)
  case first =>
    by_cases hE : E = 0
    · have hz : (E == 0) = true := by rw [hE]; rfl
      by_cases ha : a < 0
      · have hv : b30 = true := by rw [HB30.out]; exact decide_eq_true ⟨hE, Or.inl ha⟩
        clear hE
        go_wp2
        go_meet
        case rel => exact ⟨by rw [hv], rfl⟩
      · by_cases hb : n ≤ a
        · have hv : b30 = true := by rw [HB30.out]; exact decide_eq_true ⟨hE, Or.inr hb⟩
          clear hE
          go_wp2
          go_meet
          case rel => exact ⟨by rw [hv], rfl⟩
        · have hv : b30 = false := by rw [HB30.out]; exact decide_eq_false (fun h => h.2.elim ha hb)
          clear hE
          go_wp2
          go_meet
          case rel => exact ⟨by rw [hv], rfl⟩
    · have hz : (E == 0) = false := by rw [beq_eq_false_iff_ne]; exact hE
      have hv : b30 = false := by rw [HB30.out]; exact decide_eq_false (fun h => hE h.1)
      clear hE
      go_wp2
      go_meet
      case rel => exact ⟨by rw [hv], rfl⟩
  case rest =>
  obtain ⟨hv, hwx⟩ := hcut
  have hwx := hwx.symm
  subst hv hwx
  go_upto_if 30 with fail
  go_cut [7] (fun vs wx => vs = .int .i64 S1 ∧ wx = w0)
  case first =>
    cases hb : b30 with
    | true =>
      have hv : S1 = 10 := by rw [HS1.out]; exact if_pos (of_decide_eq_true (by rw [← HB30.out]; exact hb))
      go_wp2
      go_meet
      case rel => exact ⟨by rw [hv], rfl⟩
    | false =>
      have hv : S1 = E := by rw [HS1.out]; exact if_neg (of_decide_eq_false (by rw [← HB30.out]; exact hb))
      go_wp2
      go_meet
      case rel => exact ⟨by rw [hv], rfl⟩
  case rest =>
  obtain ⟨hv, hwx⟩ := hcut
  have hwx := hwx.symm
  subst hv hwx
  go_upto_region 4 with fail
  go_cut [37] (fun vb wx => vb = .bool b37 ∧ wx = w0)
  case first =>
    by_cases hE : S1 = 0
    · have hz : (S1 == 0) = true := by rw [hE]; rfl
      by_cases h1 : n = 1
      · have hz1 : (n == 1) = true := by rw [h1]; rfl
        have hv : b37 = true := by rw [HB37.out]; exact decide_eq_true ⟨hE, h1⟩
        clear hE h1
        go_wp2
        go_meet
        case rel => exact ⟨by rw [hv], rfl⟩
      · have hz1 : (n == 1) = false := by rw [beq_eq_false_iff_ne]; exact h1
        have hv : b37 = false := by rw [HB37.out]; exact decide_eq_false (fun h => h1 h.2)
        clear hE h1
        go_wp2
        go_meet
        case rel => exact ⟨by rw [hv], rfl⟩
    · have hz : (S1 == 0) = false := by rw [beq_eq_false_iff_ne]; exact hE
      have hv : b37 = false := by rw [HB37.out]; exact decide_eq_false (fun h => hE h.1)
      clear hE
      go_wp2
      go_meet
      case rel => exact ⟨by rw [hv], rfl⟩
  case rest =>
  obtain ⟨hv, hwx⟩ := hcut
  have hwx := hwx.symm
  subst hv hwx
  go_upto_if 37 with fail
  go_cut [7] (fun vs wx => vs = .int .i64 S ∧ wx = w0)
  case first =>
    cases hb : b37 with
    | true =>
      have hv : S = 4 := by rw [HS.out]; exact if_pos (of_decide_eq_true (by rw [← HB37.out]; exact hb))
      go_wp2
      go_meet
      case rel => exact ⟨by rw [hv], rfl⟩
    | false =>
      have hv : S = S1 := by rw [HS.out]; exact if_neg (of_decide_eq_false (by rw [← HB37.out]; exact hb))
      go_wp2
      go_meet
      case rel => exact ⟨by rw [hv], rfl⟩
  case rest =>
  obtain ⟨hv, hwx⟩ := hcut
  have hwx := hwx.symm
  subst hv hwx
  go_upto_region 7 with fail
  go_cut [45] (fun vb wx => vb = .bool b45 ∧ wx = w0)
  case first =>
    by_cases hE : E = 0
    · have hz : (E == 0) = true := by rw [hE]; rfl
      by_cases h1 : n = 64
      · have hz1 : (n == 64) = true := by rw [h1]; rfl
        have hv : b45 = true := by rw [HB45.out]; exact decide_eq_true ⟨hE, h1⟩
        clear hE h1
        go_wp2
        go_meet
        case rel => exact ⟨by rw [hv], rfl⟩
      · have hz1 : (n == 64) = false := by rw [beq_eq_false_iff_ne]; exact h1
        have hv : b45 = false := by rw [HB45.out]; exact decide_eq_false (fun h => h1 h.2)
        clear hE h1
        go_wp2
        go_meet
        case rel => exact ⟨by rw [hv], rfl⟩
    · have hz : (E == 0) = false := by rw [beq_eq_false_iff_ne]; exact hE
      have hv : b45 = false := by rw [HB45.out]; exact decide_eq_false (fun h => hE h.1)
      clear hE
      go_wp2
      go_meet
      case rel => exact ⟨by rw [hv], rfl⟩
  case rest =>
  obtain ⟨hv, hwx⟩ := hcut
  have hwx := hwx.symm
  subst hv hwx
  go_upto_if 45 with fail
  go_cut [8] (fun vs wx => vs = .int .i64 T ∧ wx = w0)
  case first =>
    cases hb : b45 with
    | true =>
      have hv : T = 4 := by rw [HT.out]; exact if_pos (of_decide_eq_true (by rw [← HB45.out]; exact hb))
      go_wp2
      go_meet
      case rel => exact ⟨by rw [hv], rfl⟩
    | false =>
      have hv : T = E := by rw [HT.out]; exact if_neg (of_decide_eq_false (by rw [← HB45.out]; exact hb))
      go_wp2
      go_meet
      case rel => exact ⟨by rw [hv], rfl⟩
  case rest =>
  obtain ⟨hv, hwx⟩ := hcut
  have hwx := hwx.symm
  subst hv hwx
  clear HB30 HB37 HB45 HS1 HS HT p0 p1 p2
  obtain ⟨B, hB⟩ : ∃ B, B = w0.heap.size := ⟨_, rfl⟩
  obtain ⟨wz, hwz⟩ : ∃ wz, wz = ((w0.alloc (.cells #[.int .i64 0, .int .i64 0, .slice none 0 0] 43)).alloc (.cells #[.int .i64 0, .int .i64 0, .slice none 0 0] 43)).alloc (.cells #[.int .i64 0, .int .i64 0, .slice none 0 0] 43) := ⟨_, rfl⟩
  have HZ : Hid (Below w.heap.size w wz ∧ CB w.heap.size q n (.slice ao m ca) wz ∧ (CB B 0 0 (.slice none 0 0) wz ∧ RBt B wz) ∧ (CB (B + 1) 0 0 (.slice none 0 0) wz ∧ RBt (B + 1) wz) ∧ (CB (B + 1 + 1) 0 0 (.slice none 0 0) wz ∧ RBt (B + 1 + 1) wz) ∧ w.heap.size < B) := by
    obtain ⟨g1, g2, g3⟩ := box_at 0 0 (.slice none 0 0) w0
    have t1 := RBt.new #[.int .i64 0, .int .i64 0, .slice none 0 0] w0
    obtain ⟨wa, hwa⟩ : ∃ wa, wa = w0.alloc (.cells #[.int .i64 0, .int .i64 0, .slice none 0 0] 43) := ⟨_, rfl⟩
    rw [← hwa] at g1 g2 g3 t1 hwz
    obtain ⟨k1, k2, k3⟩ := box_at 0 0 (.slice none 0 0) wa
    have t2 := RBt.new #[.int .i64 0, .int .i64 0, .slice none 0 0] wa
    obtain ⟨wb, hwb⟩ : ∃ wb, wb = wa.alloc (.cells #[.int .i64 0, .int .i64 0, .slice none 0 0] 43) := ⟨_, rfl⟩
    rw [← hwb] at k1 k2 k3 t2 hwz
    obtain ⟨l1, l2, l3⟩ := box_at 0 0 (.slice none 0 0) wb
    have t3 := RBt.new #[.int .i64 0, .int .i64 0, .slice none 0 0] wb
    rw [← hwz] at l1 l2 l3 t3
    rw [k3, g3, ← hB] at l2 t3
    rw [g3, ← hB] at k2 t2
    rw [← hB] at g2 t1
    have hkl := bel_up' k1 l1
    have hgl := bel_up' g1 hkl
    exact ⟨bel_up' HW.out.1 hgl, HW.out.2.1.keep hgl, ⟨g2.keep hkl, t1.keep hkl⟩, ⟨k2.keep l1, t2.keep l1⟩, ⟨l2, t3⟩, by have := HW.out.2.2; omega⟩
  go_upto_if 50 with fail
  rw [← hwz, ← hB]
  clear hwz hB HW
  go_cut [7] (fun vs wx => vs = .int .i64 S ∧ ∃ qa na oa ka cca qb nb ob kb ccb, Hid (Below w.heap.size w wx ∧ CB w.heap.size q n (.slice ao m ca) wx ∧ (CB (B) qa na (.slice oa ka cca) wx ∧ ToldR S q nn1 w.heap.size K1 qa na oa ka cca wx) ∧ (CB (B + 1) qb nb (.slice ob kb ccb) wx ∧ ToldR S q nn1 w.heap.size K2 qb nb ob kb ccb wx) ∧ (CB (B + 1 + 1) 0 0 (.slice none 0 0) wx ∧ RBt (B + 1 + 1) wx)))
  case first =>
    by_cases hS0 : S = 0
    · have hz : (S == 0) = true := by rw [hS0]; rfl
      have HR1' : Hid (∀ wx, Below w.heap.size w wx → Calls Try.prog 73 #[.agg #[.int .i64 q, .int .i64 n, .slice ao m ca], .int .i64 a] wx fun e w' => ∃ qa na o k c, e = .returned (.agg #[.int .i64 qa, .int .i64 na, .slice o k c]) ∧ ToldR 0 q nn1 w.heap.size K1 qa na o k c w' ∧ Below wx.heap.size wx w') := HR1.out hS0
      have HR2' : Hid (∀ wx, Below w.heap.size w wx → Calls Try.prog 74 #[.agg #[.int .i64 q, .int .i64 n, .slice ao m ca], .int .i64 a] wx fun e w' => ∃ qa na o k c, e = .returned (.agg #[.int .i64 qa, .int .i64 na, .slice o k c]) ∧ ToldR 0 q nn1 w.heap.size K2 qa na o k c w' ∧ Below wx.heap.size wx w') := HR2.out hS0
      have HS0 : Hid (S = 0) := hS0
      clear hS0
      obtain ⟨p0, p1, p2⟩ := HZ.out.2.1
      go_wp2_with fail
      clear p0 p1 p2
      refine (HR1'.out _ HZ.out.1).mono ?_
      rintro e w2 ⟨qa, na, oa, ka, cca, rfl, htold, hb2⟩
      have H2 : Hid (ToldR 0 q nn1 w.heap.size K1 qa na oa ka cca w2 ∧ Below w.heap.size w w2 ∧ CB w.heap.size q n (.slice ao m ca) w2 ∧ (CB (B) 0 0 (.slice none 0 0) w2 ∧ RBt (B) w2) ∧ (CB (B + 1) 0 0 (.slice none 0 0) w2 ∧ RBt (B + 1) w2) ∧ (CB (B + 1 + 1) 0 0 (.slice none 0 0) w2 ∧ RBt (B + 1 + 1) w2) ∧ w.heap.size < B) := ⟨htold, bel_up' HZ.out.1 hb2, HZ.out.2.1.keep hb2, ⟨HZ.out.2.2.1.1.keep hb2, HZ.out.2.2.1.2.keep hb2⟩, ⟨HZ.out.2.2.2.1.1.keep hb2, HZ.out.2.2.2.1.2.keep hb2⟩, ⟨HZ.out.2.2.2.2.1.1.keep hb2, HZ.out.2.2.2.2.1.2.keep hb2⟩, HZ.out.2.2.2.2.2⟩
      clear htold hb2
      obtain ⟨w3, hw3⟩ : ∃ w3, w3 = laid w2 B qa na (.slice oa ka cca) := ⟨_, rfl⟩
      have H3 : Hid (ToldR 0 q nn1 w.heap.size K1 qa na oa ka cca w3 ∧ Below w.heap.size w w3 ∧ CB w.heap.size q n (.slice ao m ca) w3 ∧ CB (B) qa na (.slice oa ka cca) w3 ∧ (CB (B + 1) 0 0 (.slice none 0 0) w3 ∧ RBt (B + 1) w3) ∧ (CB (B + 1 + 1) 0 0 (.slice none 0 0) w3 ∧ RBt (B + 1 + 1) w3)) := by
        have hlt := H2.out.2.2.2.2.2.2
        rw [hw3]
        exact ⟨H2.out.1.laid H2.out.2.2.2.1.2 _ _ _, laid_below H2.out.2.1 (by omega) _ _ _, laid_cb' H2.out.2.2.1 (by omega) _ _ _, laid_cb (RB.of H2.out.2.2.2.1.1 H2.out.2.2.2.1.2) _ _ _, ⟨laid_cb' H2.out.2.2.2.2.1.1 (by omega) _ _ _, laid_rbt H2.out.2.2.2.2.1.2 (by omega) _ _ _⟩, ⟨laid_cb' H2.out.2.2.2.2.2.1.1 (by omega) _ _ _, laid_rbt H2.out.2.2.2.2.2.1.2 (by omega) _ _ _⟩⟩
      obtain ⟨⟨x0, c0⟩, ⟨x1, c1⟩, ⟨x2, c2⟩, f0, f1, f2⟩ := RB.of H2.out.2.2.2.1.1 H2.out.2.2.2.1.2
      have hcb := H3.out.2.2.1
      rw [hw3] at hcb
      unfold laid at hw3 hcb
      obtain ⟨p0, p1, p2⟩ := hcb
      go_wp2_with fail
      rw [← hw3]
      clear hw3 c0 c1 c2 f0 f1 f2 p0 p1 p2
      refine (HR2'.out _ H3.out.2.1).mono ?_
      rintro e w4 ⟨qb, nb, ob, kb, ccb, rfl, htold, hb4⟩
      obtain ⟨w5, hw5⟩ : ∃ w5, w5 = laid w4 (B + 1) qb nb (.slice ob kb ccb) := ⟨_, rfl⟩
      have hrbt := H3.out.2.2.2.2.1.2.keep hb4
      have HRB4 : Hid (RB (B + 1) w4) := RB.of (H3.out.2.2.2.2.1.1.keep hb4) hrbt
      have H5 : Hid (Below w.heap.size w w5 ∧ CB w.heap.size q n (.slice ao m ca) w5 ∧ (CB (B) qa na (.slice oa ka cca) w5 ∧ ToldR S q nn1 w.heap.size K1 qa na oa ka cca w5) ∧ (CB (B + 1) qb nb (.slice ob kb ccb) w5 ∧ ToldR S q nn1 w.heap.size K2 qb nb ob kb ccb w5) ∧ (CB (B + 1 + 1) 0 0 (.slice none 0 0) w5 ∧ RBt (B + 1 + 1) w5)) := by
        have hlt := H2.out.2.2.2.2.2.2
        rw [hw5]
        refine ⟨laid_below (bel_up' H3.out.2.1 hb4) (by omega) _ _ _, laid_cb' (H3.out.2.2.1.keep hb4) (by omega) _ _ _, ⟨laid_cb' (H3.out.2.2.2.1.keep hb4) (by omega) _ _ _, fun _ => ?_⟩, ⟨laid_cb HRB4.out _ _ _, fun _ => ?_⟩, laid_cb' (H3.out.2.2.2.2.2.1.keep hb4) (by omega) _ _ _, laid_rbt (H3.out.2.2.2.2.2.2.keep hb4) (by omega) _ _ _⟩
        · exact ((H3.out.1.below hb4).laid hrbt _ _ _) rfl
        · exact (htold.laid hrbt _ _ _) rfl
      clear htold hb4 hrbt
      obtain ⟨⟨x0, c0⟩, ⟨x1, c1⟩, ⟨x2, c2⟩, f0, f1, f2⟩ := HRB4.out
      go_wp2
      unfold laid at hw5
      rw [← hw5]
      clear hw5 c0 c1 c2 f0 f1 f2
      go_meet
      case rel => exact ⟨rfl, qa, na, oa, ka, cca, qb, nb, ob, kb, ccb, H5.out⟩
    · have hz : (S == 0) = false := by rw [beq_eq_false_iff_ne]; exact hS0
      have H5 : Hid (Below w.heap.size w wz ∧ CB w.heap.size q n (.slice ao m ca) wz ∧ (CB (B) 0 0 (.slice none 0 0) wz ∧ ToldR S q nn1 w.heap.size K1 0 0 none 0 0 wz) ∧ (CB (B + 1) 0 0 (.slice none 0 0) wz ∧ ToldR S q nn1 w.heap.size K2 0 0 none 0 0 wz) ∧ (CB (B + 1 + 1) 0 0 (.slice none 0 0) wz ∧ RBt (B + 1 + 1) wz)) := ⟨HZ.out.1, HZ.out.2.1, ⟨HZ.out.2.2.1.1, fun e => absurd e hS0⟩, ⟨HZ.out.2.2.2.1.1, fun e => absurd e hS0⟩, HZ.out.2.2.2.2.1⟩
      clear hS0
      go_wp2
      go_meet
      case rel => exact ⟨rfl, 0, 0, none, 0, 0, 0, 0, none, 0, 0, H5.out⟩
  case rest =>
  obtain ⟨hv, qa, na, oa, ka, cca, qb, nb, ob, kb, ccb, HC1⟩ := hcut
  subst hv
  rename World => wy
  have hlB := HZ.out.2.2.2.2.2
  clear HZ HR1 HR2
  go_upto_if 58 with fail
  go_cut [8] (fun vs wx => vs = .int .i64 T ∧ ∃ qd nd od kd ccd, Hid (Below w.heap.size w wx ∧ CB w.heap.size q n (.slice ao m ca) wx ∧ (CB (B) qa na (.slice oa ka cca) wx ∧ ToldR S q nn1 w.heap.size K1 qa na oa ka cca wx) ∧ (CB (B + 1) qb nb (.slice ob kb ccb) wx ∧ ToldR S q nn1 w.heap.size K2 qb nb ob kb ccb wx) ∧ (CB (B + 1 + 1) qd nd (.slice od kd ccd) wx ∧ ToldR T q nn3 w.heap.size K3 qd nd od kd ccd wx)))
  case first =>
    by_cases hS0 : T = 0
    · have hz : (T == 0) = true := by rw [hS0]; rfl
      have HR3' : Hid (∀ wx, Below w.heap.size w wx → Calls Try.prog 75 #[.agg #[.int .i64 q, .int .i64 n, .slice ao m ca]] wx fun e w' => ∃ qa na o k c, e = .returned (.agg #[.int .i64 qa, .int .i64 na, .slice o k c]) ∧ ToldR 0 q nn3 w.heap.size K3 qa na o k c w' ∧ Below wx.heap.size wx w') := HR3.out hS0
      clear hS0
      obtain ⟨p0, p1, p2⟩ := HC1.out.2.1
      go_wp2_with fail
      clear p0 p1 p2
      refine (HR3'.out _ HC1.out.1).mono ?_
      rintro e w4 ⟨qd, nd, od, kd, ccd, rfl, htold, hb4⟩
      obtain ⟨w5, hw5⟩ : ∃ w5, w5 = laid w4 (B + 1 + 1) qd nd (.slice od kd ccd) := ⟨_, rfl⟩
      have hrbt := HC1.out.2.2.2.2.2.keep hb4
      have HRB4 : Hid (RB (B + 1 + 1) w4) := RB.of (HC1.out.2.2.2.2.1.keep hb4) hrbt
      have H5 : Hid (Below w.heap.size w w5 ∧ CB w.heap.size q n (.slice ao m ca) w5 ∧ (CB (B) qa na (.slice oa ka cca) w5 ∧ ToldR S q nn1 w.heap.size K1 qa na oa ka cca w5) ∧ (CB (B + 1) qb nb (.slice ob kb ccb) w5 ∧ ToldR S q nn1 w.heap.size K2 qb nb ob kb ccb w5) ∧ (CB (B + 1 + 1) qd nd (.slice od kd ccd) w5 ∧ ToldR T q nn3 w.heap.size K3 qd nd od kd ccd w5)) := by
        rw [hw5]
        exact ⟨laid_below (bel_up' HC1.out.1 hb4) (by omega) _ _ _, laid_cb' (HC1.out.2.1.keep hb4) (by omega) _ _ _, ⟨laid_cb' (HC1.out.2.2.1.1.keep hb4) (by omega) _ _ _, (HC1.out.2.2.1.2.below hb4).laid hrbt _ _ _⟩, ⟨laid_cb' (HC1.out.2.2.2.1.1.keep hb4) (by omega) _ _ _, (HC1.out.2.2.2.1.2.below hb4).laid hrbt _ _ _⟩, laid_cb HRB4.out _ _ _, fun _ => (htold.laid hrbt _ _ _) rfl⟩
      clear htold hb4 hrbt
      obtain ⟨⟨x0, c0⟩, ⟨x1, c1⟩, ⟨x2, c2⟩, f0, f1, f2⟩ := HRB4.out
      go_wp2
      unfold laid at hw5
      rw [← hw5]
      clear hw5 c0 c1 c2 f0 f1 f2
      go_meet
      case rel => exact ⟨rfl, qd, nd, od, kd, ccd, H5.out⟩
    · have hz : (T == 0) = false := by rw [beq_eq_false_iff_ne]; exact hS0
      have H5 : Hid (Below w.heap.size w wy ∧ CB w.heap.size q n (.slice ao m ca) wy ∧ (CB (B) qa na (.slice oa ka cca) wy ∧ ToldR S q nn1 w.heap.size K1 qa na oa ka cca wy) ∧ (CB (B + 1) qb nb (.slice ob kb ccb) wy ∧ ToldR S q nn1 w.heap.size K2 qb nb ob kb ccb wy) ∧ (CB (B + 1 + 1) 0 0 (.slice none 0 0) wy ∧ ToldR T q nn3 w.heap.size K3 0 0 none 0 0 wy)) := ⟨HC1.out.1, HC1.out.2.1, HC1.out.2.2.1, HC1.out.2.2.2.1, HC1.out.2.2.2.2.1, fun e => absurd e hS0⟩
      clear hS0
      go_wp2
      go_meet
      case rel => exact ⟨rfl, 0, 0, none, 0, 0, H5.out⟩
  case rest =>
  obtain ⟨hv, qd, nd, od, kd, ccd, HC2⟩ := hcut
  subst hv
  rename World => wx0
  clear HC1 HR3
  have G0 : Hid ((Below w.heap.size w wx0) ∧ (CB w.heap.size q n (.slice ao m ca) wx0) ∧ (CB (B) qa na (.slice oa ka cca) wx0) ∧ (ToldR S q nn1 w.heap.size K1 qa na oa ka cca wx0) ∧ (CB (B + 1) qb nb (.slice ob kb ccb) wx0) ∧ (ToldR S q nn1 w.heap.size K2 qb nb ob kb ccb wx0) ∧ (CB (B + 1 + 1) qd nd (.slice od kd ccd) wx0) ∧ (ToldR T q nn3 w.heap.size K3 qd nd od kd ccd wx0)) := ⟨HC2.out.1, HC2.out.2.1, HC2.out.2.2.1.1, HC2.out.2.2.1.2, HC2.out.2.2.2.1.1, HC2.out.2.2.2.1.2, HC2.out.2.2.2.2.1, HC2.out.2.2.2.2.2⟩
  clear HC2
  have hqc := G0.out.2.1
  obtain ⟨qc0, qc1, qc2⟩ := hqc
  have hlc := cell_lt qc0
  go_wp2_with fail
  clear qc0 qc1 qc2 hlc
  refine (HP1.out _ G0.out.1).mono ?_
  rintro e v0 ⟨qx, nx, ox, kx, ccx, rfl, htold, hb⟩
  obtain ⟨w1z, hw1z⟩ : ∃ w1z, w1z = v0.alloc (.cells #[.int .i64 qx, .int .i64 nx, .slice ox kx ccx] 43) := ⟨_, rfl⟩
  obtain ⟨g1, g2, g3⟩ := box_at qx nx (.slice ox kx ccx) v0
  rw [← hw1z] at g1 g2 g3
  have hbb := bel_up' hb g1
  have G1 : Hid ((CB v0.heap.size qx nx (.slice ox kx ccx) w1z) ∧ (ToldP S q nn1 K1 qx nx ox kx ccx w1z) ∧ (Below w.heap.size w w1z) ∧ (CB w.heap.size q n (.slice ao m ca) w1z) ∧ (CB (B) qa na (.slice oa ka cca) w1z) ∧ (ToldR S q nn1 w.heap.size K1 qa na oa ka cca w1z) ∧ (CB (B + 1) qb nb (.slice ob kb ccb) w1z) ∧ (ToldR S q nn1 w.heap.size K2 qb nb ob kb ccb w1z) ∧ (CB (B + 1 + 1) qd nd (.slice od kd ccd) w1z) ∧ (ToldR T q nn3 w.heap.size K3 qd nd od kd ccd w1z)) := ⟨g2, htold.below g1, bel_up' G0.out.1 hbb, G0.out.2.1.keep hbb, G0.out.2.2.1.keep hbb, G0.out.2.2.2.1.below hbb, G0.out.2.2.2.2.1.keep hbb, G0.out.2.2.2.2.2.1.below hbb, G0.out.2.2.2.2.2.2.1.keep hbb, G0.out.2.2.2.2.2.2.2.below hbb⟩
  have hqc := G0.out.2.1.keep hb
  obtain ⟨qc0, qc1, qc2⟩ := hqc
  have hlc := cell_lt qc0
  clear htold hb g1 g2 g3 hbb G0
  go_wp2_with fail
  rw [← hw1z]
  clear hw1z
  clear qc0 qc1 qc2 hlc
  refine (HP2.out _ G1.out.2.2.1).mono ?_
  rintro e v1 ⟨qy, ny, oy, ky, ccy, rfl, htold, hb⟩
  obtain ⟨w2z, hw2z⟩ : ∃ w2z, w2z = v1.alloc (.cells #[.int .i64 qy, .int .i64 ny, .slice oy ky ccy] 43) := ⟨_, rfl⟩
  obtain ⟨g1, g2, g3⟩ := box_at qy ny (.slice oy ky ccy) v1
  rw [← hw2z] at g1 g2 g3
  have hbb := bel_up' hb g1
  have G2 : Hid ((CB v1.heap.size qy ny (.slice oy ky ccy) w2z) ∧ (ToldP S q nn1 K2 qy ny oy ky ccy w2z) ∧ (CB v0.heap.size qx nx (.slice ox kx ccx) w2z) ∧ (ToldP S q nn1 K1 qx nx ox kx ccx w2z) ∧ (Below w.heap.size w w2z) ∧ (CB w.heap.size q n (.slice ao m ca) w2z) ∧ (CB (B) qa na (.slice oa ka cca) w2z) ∧ (ToldR S q nn1 w.heap.size K1 qa na oa ka cca w2z) ∧ (CB (B + 1) qb nb (.slice ob kb ccb) w2z) ∧ (ToldR S q nn1 w.heap.size K2 qb nb ob kb ccb w2z) ∧ (CB (B + 1 + 1) qd nd (.slice od kd ccd) w2z) ∧ (ToldR T q nn3 w.heap.size K3 qd nd od kd ccd w2z)) := ⟨g2, htold.below g1, G1.out.1.keep hbb, G1.out.2.1.below hbb, bel_up' G1.out.2.2.1 hbb, G1.out.2.2.2.1.keep hbb, G1.out.2.2.2.2.1.keep hbb, G1.out.2.2.2.2.2.1.below hbb, G1.out.2.2.2.2.2.2.1.keep hbb, G1.out.2.2.2.2.2.2.2.1.below hbb, G1.out.2.2.2.2.2.2.2.2.1.keep hbb, G1.out.2.2.2.2.2.2.2.2.2.below hbb⟩
  have hqc := G1.out.2.2.2.1.keep hb
  obtain ⟨qc0, qc1, qc2⟩ := hqc
  have hlc := cell_lt qc0
  clear htold hb g1 g2 g3 hbb G1
  go_wp2_with fail
  rw [← hw2z]
  clear hw2z
  clear qc0 qc1 qc2 hlc
  refine (HP3.out _ G2.out.2.2.2.2.1).mono ?_
  rintro e v2 ⟨qz, nz, oz, kz, ccz, rfl, htold, hb⟩
  obtain ⟨w3z, hw3z⟩ : ∃ w3z, w3z = v2.alloc (.cells #[.int .i64 qz, .int .i64 nz, .slice oz kz ccz] 43) := ⟨_, rfl⟩
  obtain ⟨g1, g2, g3⟩ := box_at qz nz (.slice oz kz ccz) v2
  rw [← hw3z] at g1 g2 g3
  have hbb := bel_up' hb g1
  have G3 : Hid ((CB v2.heap.size qz nz (.slice oz kz ccz) w3z) ∧ (ToldP T q nn3 K3 qz nz oz kz ccz w3z) ∧ (CB v1.heap.size qy ny (.slice oy ky ccy) w3z) ∧ (ToldP S q nn1 K2 qy ny oy ky ccy w3z) ∧ (CB v0.heap.size qx nx (.slice ox kx ccx) w3z) ∧ (ToldP S q nn1 K1 qx nx ox kx ccx w3z) ∧ (Below w.heap.size w w3z) ∧ (CB w.heap.size q n (.slice ao m ca) w3z) ∧ (CB (B) qa na (.slice oa ka cca) w3z) ∧ (ToldR S q nn1 w.heap.size K1 qa na oa ka cca w3z) ∧ (CB (B + 1) qb nb (.slice ob kb ccb) w3z) ∧ (ToldR S q nn1 w.heap.size K2 qb nb ob kb ccb w3z) ∧ (CB (B + 1 + 1) qd nd (.slice od kd ccd) w3z) ∧ (ToldR T q nn3 w.heap.size K3 qd nd od kd ccd w3z)) := ⟨g2, htold.below g1, G2.out.1.keep hbb, G2.out.2.1.below hbb, G2.out.2.2.1.keep hbb, G2.out.2.2.2.1.below hbb, bel_up' G2.out.2.2.2.2.1 hbb, G2.out.2.2.2.2.2.1.keep hbb, G2.out.2.2.2.2.2.2.1.keep hbb, G2.out.2.2.2.2.2.2.2.1.below hbb, G2.out.2.2.2.2.2.2.2.2.1.keep hbb, G2.out.2.2.2.2.2.2.2.2.2.1.below hbb, G2.out.2.2.2.2.2.2.2.2.2.2.1.keep hbb, G2.out.2.2.2.2.2.2.2.2.2.2.2.below hbb⟩
  have hqx := G2.out.2.2.1.keep hb
  obtain ⟨qx0, qx1, qx2⟩ := hqx
  have hlx := cell_lt qx0
  have hqa := G2.out.2.2.2.2.2.2.1.keep hb
  obtain ⟨qa0, qa1, qa2⟩ := hqa
  have hla := cell_lt qa0
  clear htold hb g1 g2 g3 hbb G2
  go_wp2_with fail
  rw [← hw3z]
  clear hw3z
  clear qx0 qx1 qx2 hlx qa0 qa1 qa2 hla
  refine (lsame_told HU.out.1 HU.out.2.2.2.1 G3.out.2.2.2.2.2.1 G3.out.2.2.2.2.2.2.2.2.2.1).mono ?_
  rintro e s0 ⟨rfl, hb⟩
  have S0 : Hid ((CB v2.heap.size qz nz (.slice oz kz ccz) s0) ∧ (ToldP T q nn3 K3 qz nz oz kz ccz s0) ∧ (CB v1.heap.size qy ny (.slice oy ky ccy) s0) ∧ (ToldP S q nn1 K2 qy ny oy ky ccy s0) ∧ (CB v0.heap.size qx nx (.slice ox kx ccx) s0) ∧ (ToldP S q nn1 K1 qx nx ox kx ccx s0) ∧ (Below w.heap.size w s0) ∧ (CB w.heap.size q n (.slice ao m ca) s0) ∧ (CB (B) qa na (.slice oa ka cca) s0) ∧ (ToldR S q nn1 w.heap.size K1 qa na oa ka cca s0) ∧ (CB (B + 1) qb nb (.slice ob kb ccb) s0) ∧ (ToldR S q nn1 w.heap.size K2 qb nb ob kb ccb s0) ∧ (CB (B + 1 + 1) qd nd (.slice od kd ccd) s0) ∧ (ToldR T q nn3 w.heap.size K3 qd nd od kd ccd s0)) := ⟨G3.out.1.keep hb, G3.out.2.1.below hb, G3.out.2.2.1.keep hb, G3.out.2.2.2.1.below hb, G3.out.2.2.2.2.1.keep hb, G3.out.2.2.2.2.2.1.below hb, bel_up' G3.out.2.2.2.2.2.2.1 hb, G3.out.2.2.2.2.2.2.2.1.keep hb, G3.out.2.2.2.2.2.2.2.2.1.keep hb, G3.out.2.2.2.2.2.2.2.2.2.1.below hb, G3.out.2.2.2.2.2.2.2.2.2.2.1.keep hb, G3.out.2.2.2.2.2.2.2.2.2.2.2.1.below hb, G3.out.2.2.2.2.2.2.2.2.2.2.2.2.1.keep hb, G3.out.2.2.2.2.2.2.2.2.2.2.2.2.2.below hb⟩
  clear hb G3
  have hqy := S0.out.2.2.1
  obtain ⟨qy0, qy1, qy2⟩ := hqy
  have hly := cell_lt qy0
  have hqb := S0.out.2.2.2.2.2.2.2.2.2.2.1
  obtain ⟨qb0, qb1, qb2⟩ := hqb
  have hlb := cell_lt qb0
  go_wp2_with fail
  clear qy0 qy1 qy2 hly qb0 qb1 qb2 hlb
  refine (lsame_told HU.out.2.1 HU.out.2.2.2.1 S0.out.2.2.2.1 S0.out.2.2.2.2.2.2.2.2.2.2.2.1).mono ?_
  rintro e s1 ⟨rfl, hb⟩
  have S1 : Hid ((CB v2.heap.size qz nz (.slice oz kz ccz) s1) ∧ (ToldP T q nn3 K3 qz nz oz kz ccz s1) ∧ (CB v1.heap.size qy ny (.slice oy ky ccy) s1) ∧ (ToldP S q nn1 K2 qy ny oy ky ccy s1) ∧ (CB v0.heap.size qx nx (.slice ox kx ccx) s1) ∧ (ToldP S q nn1 K1 qx nx ox kx ccx s1) ∧ (Below w.heap.size w s1) ∧ (CB w.heap.size q n (.slice ao m ca) s1) ∧ (CB (B) qa na (.slice oa ka cca) s1) ∧ (ToldR S q nn1 w.heap.size K1 qa na oa ka cca s1) ∧ (CB (B + 1) qb nb (.slice ob kb ccb) s1) ∧ (ToldR S q nn1 w.heap.size K2 qb nb ob kb ccb s1) ∧ (CB (B + 1 + 1) qd nd (.slice od kd ccd) s1) ∧ (ToldR T q nn3 w.heap.size K3 qd nd od kd ccd s1)) := ⟨S0.out.1.keep hb, S0.out.2.1.below hb, S0.out.2.2.1.keep hb, S0.out.2.2.2.1.below hb, S0.out.2.2.2.2.1.keep hb, S0.out.2.2.2.2.2.1.below hb, bel_up' S0.out.2.2.2.2.2.2.1 hb, S0.out.2.2.2.2.2.2.2.1.keep hb, S0.out.2.2.2.2.2.2.2.2.1.keep hb, S0.out.2.2.2.2.2.2.2.2.2.1.below hb, S0.out.2.2.2.2.2.2.2.2.2.2.1.keep hb, S0.out.2.2.2.2.2.2.2.2.2.2.2.1.below hb, S0.out.2.2.2.2.2.2.2.2.2.2.2.2.1.keep hb, S0.out.2.2.2.2.2.2.2.2.2.2.2.2.2.below hb⟩
  clear hb S0
  have hqz := S1.out.1
  obtain ⟨qz0, qz1, qz2⟩ := hqz
  have hlz := cell_lt qz0
  have hqd := S1.out.2.2.2.2.2.2.2.2.2.2.2.2.1
  obtain ⟨qd0, qd1, qd2⟩ := hqd
  have hld := cell_lt qd0
  go_wp2_with fail
  clear qz0 qz1 qz2 hlz qd0 qd1 qd2 hld
  refine (lsame_told HU.out.2.2.1 HU.out.2.2.2.2 S1.out.2.1 S1.out.2.2.2.2.2.2.2.2.2.2.2.2.2).mono ?_
  rintro e s2 ⟨rfl, hb⟩
  have S2 : Hid ((CB v2.heap.size qz nz (.slice oz kz ccz) s2) ∧ (ToldP T q nn3 K3 qz nz oz kz ccz s2) ∧ (CB v1.heap.size qy ny (.slice oy ky ccy) s2) ∧ (ToldP S q nn1 K2 qy ny oy ky ccy s2) ∧ (CB v0.heap.size qx nx (.slice ox kx ccx) s2) ∧ (ToldP S q nn1 K1 qx nx ox kx ccx s2) ∧ (Below w.heap.size w s2) ∧ (CB w.heap.size q n (.slice ao m ca) s2) ∧ (CB (B) qa na (.slice oa ka cca) s2) ∧ (ToldR S q nn1 w.heap.size K1 qa na oa ka cca s2) ∧ (CB (B + 1) qb nb (.slice ob kb ccb) s2) ∧ (ToldR S q nn1 w.heap.size K2 qb nb ob kb ccb s2) ∧ (CB (B + 1 + 1) qd nd (.slice od kd ccd) s2) ∧ (ToldR T q nn3 w.heap.size K3 qd nd od kd ccd s2)) := ⟨S1.out.1.keep hb, S1.out.2.1.below hb, S1.out.2.2.1.keep hb, S1.out.2.2.2.1.below hb, S1.out.2.2.2.2.1.keep hb, S1.out.2.2.2.2.2.1.below hb, bel_up' S1.out.2.2.2.2.2.2.1 hb, S1.out.2.2.2.2.2.2.2.1.keep hb, S1.out.2.2.2.2.2.2.2.2.1.keep hb, S1.out.2.2.2.2.2.2.2.2.2.1.below hb, S1.out.2.2.2.2.2.2.2.2.2.2.1.keep hb, S1.out.2.2.2.2.2.2.2.2.2.2.2.1.below hb, S1.out.2.2.2.2.2.2.2.2.2.2.2.2.1.keep hb, S1.out.2.2.2.2.2.2.2.2.2.2.2.2.2.below hb⟩
  clear hb S1
  go_wp2
  go_ret
  exact ⟨by first | rfl | simp, S2.out.2.2.2.2.2.2.1⟩
end Go.Proofs.Ytbpeahhhkcljeaa
