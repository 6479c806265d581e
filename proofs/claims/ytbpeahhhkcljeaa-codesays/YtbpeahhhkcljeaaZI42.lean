/- Texts of ours, one behind the other: I42 I43. -/
import Derived.Test.YtbpeahhhkcljeaaZI41
import Derived.Test.YtbpeahhhkcljeaaZI14
import Derived.Test.YtbpeahhhkcljeaaZI28
/- CodeSays: codeTurned, where there is an error and where there is none. -/
namespace Go.Proofs.Ytbpeahhhkcljeaa
open Go.RowKit Go.Sort

theorem codeTurned_err (E : Int) (hE : E ≠ 0) (q n a : Int) {ao : Option Addr} {m ca : Nat} {w : World}
    (hC : ∀ wx, Below w.heap.size w wx → Calls Try.prog 26 #[.agg #[.int .i64 q, .int .i64 n, .slice ao m ca]] wx fun x w' => x = .returned (.int .i64 E) ∧ Below wx.heap.size wx w') :
    Calls Try.prog 33 #[.agg #[.int .i64 q, .int .i64 n, .slice ao m ca], .int .i64 a, .int .i64 E] w fun r w' => r = .returned (.bool true) ∧ Below w.heap.size w w' := by
  have hu : UniF (fun _ _ => False) := fun _ _ _ _ h => h.elim
  have hp : ∀ qa na o k c (w' : World), qa = 0 ∧ na = 0 ∧ o = none ∧ k = 0 ∧ c = 0 → ToldP E q 0 (fun _ _ => False) qa na o k c w' := fun qa na o k c w' h => ⟨fun e => absurd e hE, fun _ => h⟩
  have hpl : ∀ wx, Below w.heap.size w wx → Calls Try.prog 103 #[.agg #[.int .i64 q, .int .i64 n, .slice ao m ca], .int .i64 a] wx fun x w' => x = .returned (.int .i64 E) ∧ Below wx.heap.size wx w' := fun wx hx => by
    have h := checkPlace_any E q n a (fun wy hy => hC wy (bel_up' hx hy))
    rw [pchk, if_pos hE] at h
    exact h
  refine codeTurned_any E q n a E E E (nn1 := 0) (nn3 := 0) hu hu hu (by omega) (by omega) (by rw [if_neg (fun h => hE h.1)]) (by rw [if_neg (fun h => hE h.1)]) (by rw [if_neg (fun h => hE h.1)]) (fun e => absurd e hE) (fun e => absurd e hE) (fun e => absurd e hE) (fun wx hx => ?_) (fun wx hx => ?_) (fun wx hx => ?_)
  · refine (cPuncture_err E hE q n a (fun wy hy => hpl wy (bel_up' hx hy))).mono ?_
    rintro x w' ⟨rfl, hb⟩
    exact ⟨0, 0, none, 0, 0, rfl, hp _ _ _ _ _ _ ⟨rfl, rfl, rfl, rfl, rfl⟩, hb⟩
  · refine (cShorten_err E hE q n a (fun wy hy => hpl wy (bel_up' hx hy))).mono ?_
    rintro x w' ⟨rfl, hb⟩
    exact ⟨0, 0, none, 0, 0, rfl, hp _ _ _ _ _ _ ⟨rfl, rfl, rfl, rfl, rfl⟩, hb⟩
  · refine (cExtend_err E hE q n (fun wy hy => hC wy (bel_up' hx hy))).mono ?_
    rintro x w' ⟨rfl, hb⟩
    exact ⟨0, 0, none, 0, 0, rfl, hp _ _ _ _ _ _ ⟨rfl, rfl, rfl, rfl, rfl⟩, hb⟩

set_option maxHeartbeats 1000000 in
theorem codeTurned_ok {D : FD} (hD : D ∈ fieldsL) (a : Int) {ao : Option Addr} {m n ca : Nat} {A : Nat → Option Addr} {N C : Nat → Nat} {Z : Nat → Nat → Int} {w : World} (ha : CdZ D ao m n A N C Z w)
    (hC : ∀ wx, Below w.heap.size w wx → Calls Try.prog 26 #[.agg #[.int .i64 D.q, .int .i64 (n : Nat), .slice ao m ca]] wx fun x w' => x = .returned (.int .i64 0) ∧ Below wx.heap.size wx w') :
    Calls Try.prog 33 #[.agg #[.int .i64 D.q, .int .i64 (n : Nat), .slice ao m ca], .int .i64 a, .int .i64 0] w fun r w' => r = .returned (.bool true) ∧ Below w.heap.size w w' := by
  have F := fld hD
  have hn1 := ha.n1
  have hn64 := ha.n64
  obtain ⟨hm, hel, hbd, _⟩ := ha.rows F
  obtain ⟨S, hS⟩ : ∃ S, S = pchk 0 a (n : Nat) := ⟨_, rfl⟩
  obtain ⟨S1, hS1⟩ : ∃ S1 : Int, S1 = if (0 : Int) = 0 ∧ (a < 0 ∨ ((n : Nat) : Int) ≤ a) then 10 else 0 := ⟨_, rfl⟩
  obtain ⟨T, hT⟩ : ∃ T : Int, T = if (0 : Int) = 0 ∧ ((n : Nat) : Int) = 64 then 4 else 0 := ⟨_, rfl⟩
  have hSS : S = if S1 = 0 ∧ ((n : Nat) : Int) = 1 then 4 else S1 := by
    by_cases h1 : a < 0 ∨ ((n : Nat) : Int) ≤ a
    · have hs : S1 = 10 := by rw [hS1, if_pos ⟨rfl, h1⟩]
      rw [hS, pchk, if_neg (fun h => h rfl), if_pos h1, hs, if_neg (by omega)]
    · have hs : S1 = 0 := by rw [hS1, if_neg (fun h => h1 h.2)]
      rw [hS, pchk, if_neg (fun h => h rfl), if_neg h1, hs]
      by_cases h2 : ((n : Nat) : Int) = 1
      · rw [if_pos h2, if_pos ⟨rfl, h2⟩]
      · rw [if_neg h2, if_neg (fun h => h2 h.2)]
  have hpl : ∀ wx, Below w.heap.size w wx → Calls Try.prog 103 #[.agg #[.int .i64 D.q, .int .i64 (n : Nat), .slice ao m ca], .int .i64 a] wx fun x w' => x = .returned (.int .i64 S) ∧ Below wx.heap.size wx w' := fun wx hx => by
    rw [hS]
    exact checkPlace_any 0 D.q (n : Nat) a (fun wy hy => hC wy (bel_up' hx hy))
  have hS0 : S = 0 → ∃ a' n2 : Nat, a = (a' : Int) ∧ n = n2 + 2 ∧ a' < n := fun e => by
    rw [hS, pchk, if_neg (fun h => h rfl)] at e
    by_cases h1 : a < 0 ∨ ((n : Nat) : Int) ≤ a
    · rw [if_pos h1] at e; cases e
    · rw [if_neg h1] at e
      by_cases h2 : ((n : Nat) : Int) = 1
      · rw [if_pos h2] at e; cases e
      · exact ⟨a.toNat, n - 2, by omega, by omega, by omega⟩
  have hT0 : T = 0 → n ≤ 63 := fun e => by
    rw [hT] at e
    by_cases h1 : ((n : Nat) : Int) = 64
    · rw [if_pos ⟨rfl, h1⟩] at e; cases e
    · omega
  have mat : ∀ wx, Below w.heap.size w wx → MatR ao m (n - 1) (mzc N Z) wx := fun wx hx => ((ha.below hx).rows F).2.2.2
  have hT4 : T ≠ 0 → n = 64 ∧ T = 4 := fun e => by
    by_cases h1 : ((n : Nat) : Int) = 64
    · exact ⟨by omega, by rw [hT, if_pos ⟨rfl, h1⟩]⟩
    · exact absurd (by rw [hT, if_neg (fun h => h1 h.2)]) e
  clear hS
  refine codeTurned_any 0 D.q (n : Nat) a S1 S T (nn1 := n - 2) (nn3 := n) (K1 := fun k R => Red D (n - 2 + 1) m (fun i => wo a.toNat (mzc N Z i)) k R) (K2 := fun k R => ShR D (n - 2 + 1) a.toNat m (mzc N Z) k R) (K3 := fun k R => Red D (n + 1) m (fun i => xtd D n (mzc N Z i)) k R)
    (fun _ _ _ _ h h' => Red.uniq F h h' (fun _ => Iff.rfl)) (fun _ _ _ _ h h' => ShR.uniq F h h') (fun _ _ _ _ h h' => Red.uniq F h h' (fun _ => Iff.rfl)) (by omega) (by omega) hS1 hSS hT (fun e wx hx => ?_) (fun e wx hx => ?_) (fun e wx hx => ?_) (fun wx hx => ?_) (fun wx hx => ?_) (fun wx hx => ?_)
  · obtain ⟨a', n2, rfl, rfl, han⟩ := hS0 e
    refine (rpunct_any hD (n2 := n2) (by omega) (by omega) rfl han (fun i hi => ⟨hel i hi, hbd i hi⟩) (mat wx hx)).mono ?_
    rintro x w' ⟨k, R, ro, rc, rfl, h1, h2, h3⟩
    refine ⟨_, _, ro, k, rc, rfl, fun _ => ⟨rfl, rfl, by have := h2.le; omega, R, h1.mono hx.size, ?_⟩, h3⟩
    rw [Int.toNat_natCast]; exact h2
  · obtain ⟨a', n2, rfl, rfl, han⟩ := hS0 e
    refine (rshort_any hD (n2 := n2) (by omega) (by omega) rfl han (fun i hi => ⟨hel i hi, hbd i hi⟩) (mat wx hx)).mono ?_
    rintro x w' ⟨k, R, ro, rc, rfl, h1, h2, h3⟩
    refine ⟨_, _, ro, k, rc, rfl, fun _ => ⟨rfl, rfl, by have := h2.le; omega, R, h1.mono hx.size, ?_⟩, h3⟩
    rw [Int.toNat_natCast]; exact h2
  · have hn := hT0 e
    refine (rext_any hD (n1 := n - 1) (by omega) hn (by omega) (fun i hi => ⟨hel i hi, hbd i hi⟩) (mat wx hx)).mono ?_
    rintro x w' ⟨k, R, ro, rc, rfl, h1, h2, h3⟩
    exact ⟨_, _, ro, k, rc, rfl, fun _ => ⟨rfl, rfl, by have := h2.le; omega, R, h1.mono hx.size, h2⟩, h3⟩
  · by_cases e : S = 0
    · obtain ⟨a', n2, rfl, rfl, han⟩ := hS0 e
      rw [e] at hpl ⊢
      refine (cPuncture_ok hD (ha.below hx) rfl han (fun wy hy => hpl wy (bel_up' hx hy))).mono ?_
      rintro x w' ⟨k, R, ro, rc, rfl, h1, h2, h3⟩
      refine ⟨_, _, ro, k, rc, rfl, ⟨fun _ => ⟨rfl, rfl, by have := h2.le; omega, R, h1.rl, ?_⟩, fun h => absurd rfl h⟩, h3⟩
      rw [Int.toNat_natCast]; exact h2
    · refine (cPuncture_err S e D.q (n : Nat) a (fun wy hy => hpl wy (bel_up' hx hy))).mono ?_
      rintro x w' ⟨rfl, hb⟩
      exact ⟨0, 0, none, 0, 0, rfl, ⟨fun h => absurd h e, fun _ => ⟨rfl, rfl, rfl, rfl, rfl⟩⟩, hb⟩
  · by_cases e : S = 0
    · obtain ⟨a', n2, rfl, rfl, han⟩ := hS0 e
      rw [e] at hpl ⊢
      refine (cShorten_ok hD (ha.below hx) rfl han (fun wy hy => hpl wy (bel_up' hx hy))).mono ?_
      rintro x w' ⟨k, R, ro, rc, rfl, h1, h2, h3⟩
      refine ⟨_, _, ro, k, rc, rfl, ⟨fun _ => ⟨rfl, rfl, by have := h2.le; omega, R, h1.rl, ?_⟩, fun h => absurd rfl h⟩, h3⟩
      rw [Int.toNat_natCast]; exact h2
    · refine (cShorten_err S e D.q (n : Nat) a (fun wy hy => hpl wy (bel_up' hx hy))).mono ?_
      rintro x w' ⟨rfl, hb⟩
      exact ⟨0, 0, none, 0, 0, rfl, ⟨fun h => absurd h e, fun _ => ⟨rfl, rfl, rfl, rfl, rfl⟩⟩, hb⟩
  · by_cases e : T = 0
    · rw [e]
      refine (cExtend_ok hD (ha.below hx) (hT0 e) (fun wy hy => hC wy (bel_up' hx hy))).mono ?_
      rintro x w' ⟨k, R, ro, rc, rfl, h1, h2, h3⟩
      exact ⟨_, _, ro, k, rc, rfl, ⟨fun _ => ⟨rfl, rfl, by have := h2.le; have := hT0 e; omega, R, h1.rl, h2⟩, fun h => absurd rfl h⟩, h3⟩
    · obtain ⟨h64, hT5⟩ := hT4 e
      subst h64
      rw [hT5]
      refine (cExtend_lim D.q (fun wy hy => hC wy (bel_up' hx hy))).mono ?_
      rintro x w' ⟨rfl, hb⟩
      exact ⟨0, 0, none, 0, 0, rfl, ⟨fun h => absurd h (by omega), fun _ => ⟨rfl, rfl, rfl, rfl, rfl⟩⟩, hb⟩
end Go.Proofs.Ytbpeahhhkcljeaa

/- CodeSays: the walk, the ways of an error and of a code joined. -/
namespace Go.Proofs.Ytbpeahhhkcljeaa
open Go.RowKit Go.Sort

/-- A code's variable that holds what the reference tells, or nothing. -/
def ToldZ (S q : Int) (nn base : Nat) (K : Nat → (Nat → Nat → Nat) → Prop) (qa na : Int) (o : Option Addr) (k c : Nat) (w : World) : Prop := ToldR S q nn base K qa na o k c w ∧ (S ≠ 0 → qa = 0 ∧ na = 0 ∧ o = none ∧ k = 0 ∧ c = 0)
theorem ToldZ.below {S q : Int} {nn base : Nat} {K : Nat → (Nat → Nat → Nat) → Prop} {qa na : Int} {o : Option Addr} {k c : Nat} {w w' : World} (h : ToldZ S q nn base K qa na o k c w) (hb : Below w.heap.size w w') : ToldZ S q nn base K qa na o k c w' := ⟨h.1.below hb, h.2⟩

set_option maxHeartbeats 16000000 in
set_option maxRecDepth 100000 in
theorem codeSays_go (E q n a wt ap : Int) {ao yo zo : Option Addr} {m ca my cy mz cz nn : Nat} {w : World} {K1 K2 : Nat → (Nat → Nat → Nat) → Prop} (u1 : UniF K1) (u2 : UniF K2) (hnn : nn ≤ 1000) (hlen : my + mz ≤ 200)
    (hHv : ∀ wx, Below w.heap.size w wx → Calls Try.prog 9 #[.slice ao m ca] wx fun r w' => r = .returned (.bool false) ∧ w' = wx)
    (hMay : ∀ wx, Below w.heap.size w wx → Calls Try.prog 21 #[.agg #[.int .i64 q, .int .i64 n, .slice ao m ca]] wx fun r w' => r = .returned (.int .i64 E) ∧ Below wx.heap.size wx w')
    (hChk : ∀ wx, Below w.heap.size w wx → Calls Try.prog 26 #[.agg #[.int .i64 q, .int .i64 n, .slice ao m ca]] wx fun r w' => r = .returned (.int .i64 E) ∧ Below wx.heap.size wx w')
    (hR1 : E = 0 → ∀ wx, Below w.heap.size w wx → Calls Try.prog 22 #[.agg #[.int .i64 q, .int .i64 n, .slice ao m ca]] wx fun e w' => ∃ qa na o k c, e = .returned (.agg #[.int .i64 qa, .int .i64 na, .slice o k c]) ∧ ToldR 0 q nn w.heap.size K1 qa na o k c w' ∧ Below wx.heap.size wx w')
    (hR2 : E = 0 → ∀ wx, Below w.heap.size w wx → Calls Try.prog 23 #[.agg #[.int .i64 q, .int .i64 n, .slice ao m ca]] wx fun e w' => ∃ qa na o k c, e = .returned (.agg #[.int .i64 qa, .int .i64 na, .slice o k c]) ∧ ToldR 0 q nn w.heap.size K2 qa na o k c w' ∧ Below wx.heap.size wx w')
    (hP1 : ∀ wx, Below w.heap.size w wx → Calls Try.prog 24 #[.agg #[.int .i64 q, .int .i64 n, .slice ao m ca]] wx fun e w' => ∃ qa na o k c, e = .returned (.tuple #[.agg #[.int .i64 qa, .int .i64 na, .slice o k c], .int .i64 E]) ∧ ToldP E q nn K1 qa na o k c w' ∧ Below wx.heap.size wx w')
    (hP2 : ∀ wx, Below w.heap.size w wx → Calls Try.prog 25 #[.agg #[.int .i64 q, .int .i64 n, .slice ao m ca]] wx fun e w' => ∃ qa na o k c, e = .returned (.tuple #[.agg #[.int .i64 qa, .int .i64 na, .slice o k c], .int .i64 E]) ∧ ToldP E q nn K2 qa na o k c w' ∧ Below wx.heap.size wx w')
    (hW1 : ∀ wx, Below w.heap.size w wx → Calls Try.prog 28 #[.slice zo mz cz] wx fun r w' => r = .returned (.int .i64 wt) ∧ Below wx.heap.size wx w')
    (hW2 : ∀ wx, Below w.heap.size w wx → Calls Try.prog 29 #[.slice zo mz cz] wx fun r w' => r = .returned (.int .i64 wt) ∧ Below wx.heap.size wx w')
    (hA1 : ∀ wx, Below w.heap.size w wx → Calls Try.prog 30 #[.slice zo mz cz, .slice yo my cy] wx fun r w' => r = .returned (.int .i64 ap) ∧ Below wx.heap.size wx w')
    (hA2 : ∀ wx, Below w.heap.size w wx → Calls Try.prog 31 #[.slice zo mz cz, .slice yo my cy] wx fun r w' => r = .returned (.int .i64 ap) ∧ Below wx.heap.size wx w')
    (hCW : ∀ wx qa na oa ka cca qb nb ob kb ccb, Below w.heap.size w wx → ToldZ E q nn w.heap.size K1 qa na oa ka cca wx → ToldZ E q nn w.heap.size K2 qb nb ob kb ccb wx → Calls Try.prog 32 #[.agg #[.int .i64 q, .int .i64 n, .slice ao m ca], .agg #[.int .i64 qa, .int .i64 na, .slice oa ka cca], .agg #[.int .i64 qb, .int .i64 nb, .slice ob kb ccb], .slice yo my cy, .slice zo mz cz, .int .i64 E] wx fun r w' => r = .returned (.bool true) ∧ Below wx.heap.size wx w')
    (hCT : ∀ wx, Below w.heap.size w wx → Calls Try.prog 33 #[.agg #[.int .i64 q, .int .i64 n, .slice ao m ca], .int .i64 a, .int .i64 E] wx fun r w' => r = .returned (.bool true) ∧ Below wx.heap.size wx w') :
    Calls Try.prog 5 #[.agg #[.int .i64 q, .int .i64 n, .slice ao m ca], .slice yo my cy, .slice zo mz cz, .int .i64 a] w fun r w' => r = .returned (.bool true) ∧ Below w.heap.size w w' := by
  obtain ⟨w0, hw0⟩ : ∃ w0, w0 = w.alloc (.cells #[.int .i64 q, .int .i64 n, .slice ao m ca] 43) := ⟨_, rfl⟩
  have HW : Hid (Below w.heap.size w w0 ∧ CB w.heap.size q n (.slice ao m ca) w0 ∧ w0.heap.size = w.heap.size + 1) := by
    rw [hw0]; exact box_at q n (.slice ao m ca) w
  have HU : Hid (UniF K1 ∧ UniF K2 ∧ nn ≤ 1000) := ⟨u1, u2, hnn⟩
  have HHv : Hid _ := hHv
  have HMay : Hid _ := hMay
  have HChk : Hid _ := hChk
  have HR1 : Hid _ := hR1
  have HR2 : Hid _ := hR2
  have HP1 : Hid _ := hP1
  have HP2 : Hid _ := hP2
  have HW1 : Hid _ := hW1
  have HW2 : Hid _ := hW2
  have HA1 : Hid _ := hA1
  have HA2 : Hid _ := hA2
  have HCW : Hid _ := hCW
  have HCT : Hid _ := hCT
  have hl2 : ¬ (200 : Int) < (my : Int) + (mz : Int) := by omega
  have hee : (E != E) = false := by simp
  have hww : (wt != wt) = false := by simp
  have haa : (ap != ap) = false := by simp
  clear u1 u2 hnn hHv hMay hChk hR1 hR2 hP1 hP2 hW1 hW2 hA1 hA2 hCW hCT
  obtain ⟨p0, p1, p2⟩ : CB w.heap.size q n (.slice ao m ca) w0 := HW.out.2.1
  go_enter Try.func5, Try.ntmps5
  go_wp2_with fail
  rw [← hw0]
  clear hw0
  refine (HHv.out _ HW.out.1).mono ?_
  rintro r w' ⟨rfl, hw⟩
  have hw := hw.symm
  subst hw
  go_wp2_with fail
  clear p0 p1 p2
  refine (HMay.out _ HW.out.1).mono ?_
  rintro r w1 ⟨rfl, hb1⟩
  have H1 : Hid (Below w.heap.size w w1 ∧ CB w.heap.size q n (.slice ao m ca) w1) := ⟨bel_up' HW.out.1 hb1, HW.out.2.1.keep hb1⟩
  clear hb1 HW HHv HMay
  obtain ⟨B, hB⟩ : ∃ B, B = w1.heap.size := ⟨_, rfl⟩
  obtain ⟨wz, hwz⟩ : ∃ wz, wz = (w1.alloc (.cells #[.int .i64 0, .int .i64 0, .slice none 0 0] 43)).alloc (.cells #[.int .i64 0, .int .i64 0, .slice none 0 0] 43) := ⟨_, rfl⟩
  have HZ : Hid (Below w.heap.size w wz ∧ CB w.heap.size q n (.slice ao m ca) wz ∧ (CB B 0 0 (.slice none 0 0) wz ∧ RBt B wz) ∧ (CB (B + 1) 0 0 (.slice none 0 0) wz ∧ RBt (B + 1) wz) ∧ w.heap.size < B) := by
    obtain ⟨g1, g2, g3⟩ := box_at 0 0 (.slice none 0 0) w1
    have t1 := RBt.new #[.int .i64 0, .int .i64 0, .slice none 0 0] w1
    obtain ⟨wa, hwa⟩ : ∃ wa, wa = w1.alloc (.cells #[.int .i64 0, .int .i64 0, .slice none 0 0] 43) := ⟨_, rfl⟩
    rw [← hwa] at g1 g2 g3 t1 hwz
    obtain ⟨k1, k2, k3⟩ := box_at 0 0 (.slice none 0 0) wa
    have t2 := RBt.new #[.int .i64 0, .int .i64 0, .slice none 0 0] wa
    rw [← hwz] at k1 k2 k3 t2
    rw [g3, ← hB] at k2 t2
    rw [← hB] at g2 t1
    have hgl := bel_up' g1 k1
    exact ⟨bel_up' H1.out.1 hgl, H1.out.2.keep hgl, ⟨g2.keep k1, t1.keep k1⟩, ⟨k2, t2⟩, by have h3 : w.heap.size < w1.heap.size := cell_lt H1.out.2.c0; omega⟩
  go_upto_if 32 with fail
  rw [← hwz, ← hB]
  clear hwz hB H1
  go_cut [9] (fun vs wx => vs = .int .i64 E ∧ ∃ qa na oa ka cca qb nb ob kb ccb, Hid (Below w.heap.size w wx ∧ CB w.heap.size q n (.slice ao m ca) wx ∧ (CB (B) qa na (.slice oa ka cca) wx ∧ ToldZ E q nn w.heap.size K1 qa na oa ka cca wx) ∧ (CB (B + 1) qb nb (.slice ob kb ccb) wx ∧ ToldZ E q nn w.heap.size K2 qb nb ob kb ccb wx)))
  case first =>
    by_cases hS0 : E = 0
    · have hz : (E == 0) = true := by rw [hS0]; rfl
      have HR1' : Hid (∀ wx, Below w.heap.size w wx → Calls Try.prog 22 #[.agg #[.int .i64 q, .int .i64 n, .slice ao m ca]] wx fun e w' => ∃ qa na o k c, e = .returned (.agg #[.int .i64 qa, .int .i64 na, .slice o k c]) ∧ ToldR 0 q nn w.heap.size K1 qa na o k c w' ∧ Below wx.heap.size wx w') := HR1.out hS0
      have HR2' : Hid (∀ wx, Below w.heap.size w wx → Calls Try.prog 23 #[.agg #[.int .i64 q, .int .i64 n, .slice ao m ca]] wx fun e w' => ∃ qa na o k c, e = .returned (.agg #[.int .i64 qa, .int .i64 na, .slice o k c]) ∧ ToldR 0 q nn w.heap.size K2 qa na o k c w' ∧ Below wx.heap.size wx w') := HR2.out hS0
      have HS0 : Hid (E = 0) := hS0
      clear hS0
      obtain ⟨p0, p1, p2⟩ := HZ.out.2.1
      go_wp2_with fail
      clear p0 p1 p2
      refine (HR1'.out _ HZ.out.1).mono ?_
      rintro e w2 ⟨qa, na, oa, ka, cca, rfl, htold, hb2⟩
      have H2 : Hid (ToldR 0 q nn w.heap.size K1 qa na oa ka cca w2 ∧ Below w.heap.size w w2 ∧ CB w.heap.size q n (.slice ao m ca) w2 ∧ (CB (B) 0 0 (.slice none 0 0) w2 ∧ RBt (B) w2) ∧ (CB (B + 1) 0 0 (.slice none 0 0) w2 ∧ RBt (B + 1) w2) ∧ w.heap.size < B) := ⟨htold, bel_up' HZ.out.1 hb2, HZ.out.2.1.keep hb2, ⟨HZ.out.2.2.1.1.keep hb2, HZ.out.2.2.1.2.keep hb2⟩, ⟨HZ.out.2.2.2.1.1.keep hb2, HZ.out.2.2.2.1.2.keep hb2⟩, HZ.out.2.2.2.2⟩
      clear htold hb2
      obtain ⟨w3, hw3⟩ : ∃ w3, w3 = laid w2 B qa na (.slice oa ka cca) := ⟨_, rfl⟩
      have H3 : Hid (ToldR 0 q nn w.heap.size K1 qa na oa ka cca w3 ∧ Below w.heap.size w w3 ∧ CB w.heap.size q n (.slice ao m ca) w3 ∧ CB (B) qa na (.slice oa ka cca) w3 ∧ (CB (B + 1) 0 0 (.slice none 0 0) w3 ∧ RBt (B + 1) w3)) := by
        have hlt := H2.out.2.2.2.2.2
        rw [hw3]
        exact ⟨H2.out.1.laid H2.out.2.2.2.1.2 _ _ _, laid_below H2.out.2.1 (by omega) _ _ _, laid_cb' H2.out.2.2.1 (by omega) _ _ _, laid_cb (RB.of H2.out.2.2.2.1.1 H2.out.2.2.2.1.2) _ _ _, ⟨laid_cb' H2.out.2.2.2.2.1.1 (by omega) _ _ _, laid_rbt H2.out.2.2.2.2.1.2 (by omega) _ _ _⟩⟩
      obtain ⟨⟨x0, c0⟩, ⟨x1, c1⟩, ⟨x2, c2⟩, f0, f1, f2⟩ := RB.of H2.out.2.2.2.1.1 H2.out.2.2.2.1.2
      have hcb := H3.out.2.2.1
      rw [hw3] at hcb
      unfold laid at hw3 hcb
      obtain ⟨p0, p1, p2⟩ := hcb
      go_wp2_with fail
      rw [← hw3]
      clear hw3 c0 c1 c2 f0 f1 f2 p0 p1 p2
      refine (HR2'.out _ H3.out.2.1).mono ?_
      rintro e w4 ⟨qb, nb, ob, kb, ccb, rfl, htold, hb4⟩
      obtain ⟨w5, hw5⟩ : ∃ w5, w5 = laid w4 (B + 1) qb nb (.slice ob kb ccb) := ⟨_, rfl⟩
      have hrbt := H3.out.2.2.2.2.2.keep hb4
      have HRB4 : Hid (RB (B + 1) w4) := RB.of (H3.out.2.2.2.2.1.keep hb4) hrbt
      have H5 : Hid (Below w.heap.size w w5 ∧ CB w.heap.size q n (.slice ao m ca) w5 ∧ (CB (B) qa na (.slice oa ka cca) w5 ∧ ToldZ E q nn w.heap.size K1 qa na oa ka cca w5) ∧ (CB (B + 1) qb nb (.slice ob kb ccb) w5 ∧ ToldZ E q nn w.heap.size K2 qb nb ob kb ccb w5)) := by
        have hlt := H2.out.2.2.2.2.2
        rw [hw5]
        refine ⟨laid_below (bel_up' H3.out.2.1 hb4) (by omega) _ _ _, laid_cb' (H3.out.2.2.1.keep hb4) (by omega) _ _ _, ⟨laid_cb' (H3.out.2.2.2.1.keep hb4) (by omega) _ _ _, fun _ => ?_, fun h => absurd HS0.out h⟩, ⟨laid_cb HRB4.out _ _ _, fun _ => ?_, fun h => absurd HS0.out h⟩⟩
        · exact ((H3.out.1.below hb4).laid hrbt _ _ _) rfl
        · exact (htold.laid hrbt _ _ _) rfl
      clear htold hb4 hrbt
      obtain ⟨⟨x0, c0⟩, ⟨x1, c1⟩, ⟨x2, c2⟩, f0, f1, f2⟩ := HRB4.out
      go_wp2
      unfold laid at hw5
      rw [← hw5]
      clear hw5 c0 c1 c2 f0 f1 f2
      go_meet
      case rel => exact ⟨rfl, qa, na, oa, ka, cca, qb, nb, ob, kb, ccb, H5.out⟩
    · have hz : (E == 0) = false := by rw [beq_eq_false_iff_ne]; exact hS0
      have H5 : Hid (Below w.heap.size w wz ∧ CB w.heap.size q n (.slice ao m ca) wz ∧ (CB (B) 0 0 (.slice none 0 0) wz ∧ ToldZ E q nn w.heap.size K1 0 0 none 0 0 wz) ∧ (CB (B + 1) 0 0 (.slice none 0 0) wz ∧ ToldZ E q nn w.heap.size K2 0 0 none 0 0 wz)) := ⟨HZ.out.1, HZ.out.2.1, ⟨HZ.out.2.2.1.1, fun e => absurd e hS0, fun _ => ⟨rfl, rfl, rfl, rfl, rfl⟩⟩, ⟨HZ.out.2.2.2.1.1, fun e => absurd e hS0, fun _ => ⟨rfl, rfl, rfl, rfl, rfl⟩⟩⟩
      clear hS0
      go_wp2
      go_meet
      case rel => exact ⟨rfl, 0, 0, none, 0, 0, 0, 0, none, 0, 0, H5.out⟩
  case rest =>
  obtain ⟨hv, qa, na, oa, ka, cca, qb, nb, ob, kb, ccb, HC1⟩ := hcut
  subst hv
  rename World => wx0
  clear HZ HR1 HR2
  have G0 : Hid ((Below w.heap.size w wx0) ∧ (CB w.heap.size q n (.slice ao m ca) wx0) ∧ (CB (B) qa na (.slice oa ka cca) wx0) ∧ (ToldZ E q nn w.heap.size K1 qa na oa ka cca wx0) ∧ (CB (B + 1) qb nb (.slice ob kb ccb) wx0) ∧ (ToldZ E q nn w.heap.size K2 qb nb ob kb ccb wx0)) := ⟨HC1.out.1, HC1.out.2.1, HC1.out.2.2.1.1, HC1.out.2.2.1.2, HC1.out.2.2.2.1, HC1.out.2.2.2.2⟩
  clear HC1
  have hqc := G0.out.2.1
  obtain ⟨qc0, qc1, qc2⟩ := hqc
  have hlc := cell_lt qc0
  go_wp2_with fail
  clear qc0 qc1 qc2 hlc
  refine (HP1.out _ G0.out.1).mono ?_
  rintro e v0 ⟨qx, nx, ox, kx, ccx, rfl, htold, hb⟩
  obtain ⟨w1z, hw1z⟩ : ∃ w1z, w1z = v0.alloc (.cells #[.int .i64 qx, .int .i64 nx, .slice ox kx ccx] 43) := ⟨_, rfl⟩
  obtain ⟨g1, g2, g3⟩ := box_at qx nx (.slice ox kx ccx) v0
  rw [← hw1z] at g1 g2 g3
  have hbb := bel_up' hb g1
  have G1 : Hid ((CB v0.heap.size qx nx (.slice ox kx ccx) w1z) ∧ (ToldP E q nn K1 qx nx ox kx ccx w1z) ∧ (Below w.heap.size w w1z) ∧ (CB w.heap.size q n (.slice ao m ca) w1z) ∧ (CB (B) qa na (.slice oa ka cca) w1z) ∧ (ToldZ E q nn w.heap.size K1 qa na oa ka cca w1z) ∧ (CB (B + 1) qb nb (.slice ob kb ccb) w1z) ∧ (ToldZ E q nn w.heap.size K2 qb nb ob kb ccb w1z)) := ⟨g2, htold.below g1, bel_up' G0.out.1 hbb, G0.out.2.1.keep hbb, G0.out.2.2.1.keep hbb, G0.out.2.2.2.1.below hbb, G0.out.2.2.2.2.1.keep hbb, G0.out.2.2.2.2.2.below hbb⟩
  have hqc := G0.out.2.1.keep hb
  obtain ⟨qc0, qc1, qc2⟩ := hqc
  have hlc := cell_lt qc0
  clear htold hb g1 g2 g3 hbb G0
  go_wp2_with fail
  rw [← hw1z]
  clear hw1z
  clear qc0 qc1 qc2 hlc
  refine (HP2.out _ G1.out.2.2.1).mono ?_
  rintro e v1 ⟨qy, ny, oy, ky, ccy, rfl, htold, hb⟩
  obtain ⟨w2z, hw2z⟩ : ∃ w2z, w2z = v1.alloc (.cells #[.int .i64 qy, .int .i64 ny, .slice oy ky ccy] 43) := ⟨_, rfl⟩
  obtain ⟨g1, g2, g3⟩ := box_at qy ny (.slice oy ky ccy) v1
  rw [← hw2z] at g1 g2 g3
  have hbb := bel_up' hb g1
  have G2 : Hid ((CB v1.heap.size qy ny (.slice oy ky ccy) w2z) ∧ (ToldP E q nn K2 qy ny oy ky ccy w2z) ∧ (CB v0.heap.size qx nx (.slice ox kx ccx) w2z) ∧ (ToldP E q nn K1 qx nx ox kx ccx w2z) ∧ (Below w.heap.size w w2z) ∧ (CB w.heap.size q n (.slice ao m ca) w2z) ∧ (CB (B) qa na (.slice oa ka cca) w2z) ∧ (ToldZ E q nn w.heap.size K1 qa na oa ka cca w2z) ∧ (CB (B + 1) qb nb (.slice ob kb ccb) w2z) ∧ (ToldZ E q nn w.heap.size K2 qb nb ob kb ccb w2z)) := ⟨g2, htold.below g1, G1.out.1.keep hbb, G1.out.2.1.below hbb, bel_up' G1.out.2.2.1 hbb, G1.out.2.2.2.1.keep hbb, G1.out.2.2.2.2.1.keep hbb, G1.out.2.2.2.2.2.1.below hbb, G1.out.2.2.2.2.2.2.1.keep hbb, G1.out.2.2.2.2.2.2.2.below hbb⟩
  have hqc := G1.out.2.2.2.1.keep hb
  obtain ⟨qc0, qc1, qc2⟩ := hqc
  have hlc := cell_lt qc0
  clear htold hb g1 g2 g3 hbb G1
  go_wp2_with fail
  rw [← hw2z]
  clear hw2z
  clear qc0 qc1 qc2 hlc
  refine (HChk.out _ G2.out.2.2.2.2.1).mono ?_
  rintro e s0 ⟨rfl, hb⟩
  have S0 : Hid ((CB v1.heap.size qy ny (.slice oy ky ccy) s0) ∧ (ToldP E q nn K2 qy ny oy ky ccy s0) ∧ (CB v0.heap.size qx nx (.slice ox kx ccx) s0) ∧ (ToldP E q nn K1 qx nx ox kx ccx s0) ∧ (Below w.heap.size w s0) ∧ (CB w.heap.size q n (.slice ao m ca) s0) ∧ (CB (B) qa na (.slice oa ka cca) s0) ∧ (ToldZ E q nn w.heap.size K1 qa na oa ka cca s0) ∧ (CB (B + 1) qb nb (.slice ob kb ccb) s0) ∧ (ToldZ E q nn w.heap.size K2 qb nb ob kb ccb s0)) := ⟨G2.out.1.keep hb, G2.out.2.1.below hb, G2.out.2.2.1.keep hb, G2.out.2.2.2.1.below hb, bel_up' G2.out.2.2.2.2.1 hb, G2.out.2.2.2.2.2.1.keep hb, G2.out.2.2.2.2.2.2.1.keep hb, G2.out.2.2.2.2.2.2.2.1.below hb, G2.out.2.2.2.2.2.2.2.2.1.keep hb, G2.out.2.2.2.2.2.2.2.2.2.below hb⟩
  clear hb G2
  have hqx := S0.out.2.2.1
  obtain ⟨qx0, qx1, qx2⟩ := hqx
  have hlx := cell_lt qx0
  have hqa := S0.out.2.2.2.2.2.2.1
  obtain ⟨qa0, qa1, qa2⟩ := hqa
  have hla := cell_lt qa0
  go_wp2_with fail
  clear qx0 qx1 qx2 hlx qa0 qa1 qa2 hla
  refine (lsame_told HU.out.1 HU.out.2.2 S0.out.2.2.2.1 S0.out.2.2.2.2.2.2.2.1.1).mono ?_
  rintro e s1 ⟨rfl, hb⟩
  have S1 : Hid ((CB v1.heap.size qy ny (.slice oy ky ccy) s1) ∧ (ToldP E q nn K2 qy ny oy ky ccy s1) ∧ (CB v0.heap.size qx nx (.slice ox kx ccx) s1) ∧ (ToldP E q nn K1 qx nx ox kx ccx s1) ∧ (Below w.heap.size w s1) ∧ (CB w.heap.size q n (.slice ao m ca) s1) ∧ (CB (B) qa na (.slice oa ka cca) s1) ∧ (ToldZ E q nn w.heap.size K1 qa na oa ka cca s1) ∧ (CB (B + 1) qb nb (.slice ob kb ccb) s1) ∧ (ToldZ E q nn w.heap.size K2 qb nb ob kb ccb s1)) := ⟨S0.out.1.keep hb, S0.out.2.1.below hb, S0.out.2.2.1.keep hb, S0.out.2.2.2.1.below hb, bel_up' S0.out.2.2.2.2.1 hb, S0.out.2.2.2.2.2.1.keep hb, S0.out.2.2.2.2.2.2.1.keep hb, S0.out.2.2.2.2.2.2.2.1.below hb, S0.out.2.2.2.2.2.2.2.2.1.keep hb, S0.out.2.2.2.2.2.2.2.2.2.below hb⟩
  clear hb S0
  have hqy := S1.out.1
  obtain ⟨qy0, qy1, qy2⟩ := hqy
  have hly := cell_lt qy0
  have hqb := S1.out.2.2.2.2.2.2.2.2.1
  obtain ⟨qb0, qb1, qb2⟩ := hqb
  have hlb := cell_lt qb0
  go_wp2_with fail
  clear qy0 qy1 qy2 hly qb0 qb1 qb2 hlb
  refine (lsame_told HU.out.2.1 HU.out.2.2 S1.out.2.1 S1.out.2.2.2.2.2.2.2.2.2.1).mono ?_
  rintro e s2 ⟨rfl, hb⟩
  have S2 : Hid ((CB v1.heap.size qy ny (.slice oy ky ccy) s2) ∧ (ToldP E q nn K2 qy ny oy ky ccy s2) ∧ (CB v0.heap.size qx nx (.slice ox kx ccx) s2) ∧ (ToldP E q nn K1 qx nx ox kx ccx s2) ∧ (Below w.heap.size w s2) ∧ (CB w.heap.size q n (.slice ao m ca) s2) ∧ (CB (B) qa na (.slice oa ka cca) s2) ∧ (ToldZ E q nn w.heap.size K1 qa na oa ka cca s2) ∧ (CB (B + 1) qb nb (.slice ob kb ccb) s2) ∧ (ToldZ E q nn w.heap.size K2 qb nb ob kb ccb s2)) := ⟨S1.out.1.keep hb, S1.out.2.1.below hb, S1.out.2.2.1.keep hb, S1.out.2.2.2.1.below hb, bel_up' S1.out.2.2.2.2.1 hb, S1.out.2.2.2.2.2.1.keep hb, S1.out.2.2.2.2.2.2.1.keep hb, S1.out.2.2.2.2.2.2.2.1.below hb, S1.out.2.2.2.2.2.2.2.2.1.keep hb, S1.out.2.2.2.2.2.2.2.2.2.below hb⟩
  clear hb S1
  go_wp2_with fail
  refine (HW1.out _ S2.out.2.2.2.2.1).mono ?_
  rintro e s3 ⟨rfl, hb⟩
  have S3 : Hid ((CB v1.heap.size qy ny (.slice oy ky ccy) s3) ∧ (ToldP E q nn K2 qy ny oy ky ccy s3) ∧ (CB v0.heap.size qx nx (.slice ox kx ccx) s3) ∧ (ToldP E q nn K1 qx nx ox kx ccx s3) ∧ (Below w.heap.size w s3) ∧ (CB w.heap.size q n (.slice ao m ca) s3) ∧ (CB (B) qa na (.slice oa ka cca) s3) ∧ (ToldZ E q nn w.heap.size K1 qa na oa ka cca s3) ∧ (CB (B + 1) qb nb (.slice ob kb ccb) s3) ∧ (ToldZ E q nn w.heap.size K2 qb nb ob kb ccb s3)) := ⟨S2.out.1.keep hb, S2.out.2.1.below hb, S2.out.2.2.1.keep hb, S2.out.2.2.2.1.below hb, bel_up' S2.out.2.2.2.2.1 hb, S2.out.2.2.2.2.2.1.keep hb, S2.out.2.2.2.2.2.2.1.keep hb, S2.out.2.2.2.2.2.2.2.1.below hb, S2.out.2.2.2.2.2.2.2.2.1.keep hb, S2.out.2.2.2.2.2.2.2.2.2.below hb⟩
  clear hb S2
  go_wp2_with fail
  refine (HW2.out _ S3.out.2.2.2.2.1).mono ?_
  rintro e s4 ⟨rfl, hb⟩
  have S4 : Hid ((CB v1.heap.size qy ny (.slice oy ky ccy) s4) ∧ (ToldP E q nn K2 qy ny oy ky ccy s4) ∧ (CB v0.heap.size qx nx (.slice ox kx ccx) s4) ∧ (ToldP E q nn K1 qx nx ox kx ccx s4) ∧ (Below w.heap.size w s4) ∧ (CB w.heap.size q n (.slice ao m ca) s4) ∧ (CB (B) qa na (.slice oa ka cca) s4) ∧ (ToldZ E q nn w.heap.size K1 qa na oa ka cca s4) ∧ (CB (B + 1) qb nb (.slice ob kb ccb) s4) ∧ (ToldZ E q nn w.heap.size K2 qb nb ob kb ccb s4)) := ⟨S3.out.1.keep hb, S3.out.2.1.below hb, S3.out.2.2.1.keep hb, S3.out.2.2.2.1.below hb, bel_up' S3.out.2.2.2.2.1 hb, S3.out.2.2.2.2.2.1.keep hb, S3.out.2.2.2.2.2.2.1.keep hb, S3.out.2.2.2.2.2.2.2.1.below hb, S3.out.2.2.2.2.2.2.2.2.1.keep hb, S3.out.2.2.2.2.2.2.2.2.2.below hb⟩
  clear hb S3
  go_wp2_with fail
  refine (HA1.out _ S4.out.2.2.2.2.1).mono ?_
  rintro e s5 ⟨rfl, hb⟩
  have S5 : Hid ((CB v1.heap.size qy ny (.slice oy ky ccy) s5) ∧ (ToldP E q nn K2 qy ny oy ky ccy s5) ∧ (CB v0.heap.size qx nx (.slice ox kx ccx) s5) ∧ (ToldP E q nn K1 qx nx ox kx ccx s5) ∧ (Below w.heap.size w s5) ∧ (CB w.heap.size q n (.slice ao m ca) s5) ∧ (CB (B) qa na (.slice oa ka cca) s5) ∧ (ToldZ E q nn w.heap.size K1 qa na oa ka cca s5) ∧ (CB (B + 1) qb nb (.slice ob kb ccb) s5) ∧ (ToldZ E q nn w.heap.size K2 qb nb ob kb ccb s5)) := ⟨S4.out.1.keep hb, S4.out.2.1.below hb, S4.out.2.2.1.keep hb, S4.out.2.2.2.1.below hb, bel_up' S4.out.2.2.2.2.1 hb, S4.out.2.2.2.2.2.1.keep hb, S4.out.2.2.2.2.2.2.1.keep hb, S4.out.2.2.2.2.2.2.2.1.below hb, S4.out.2.2.2.2.2.2.2.2.1.keep hb, S4.out.2.2.2.2.2.2.2.2.2.below hb⟩
  clear hb S4
  go_wp2_with fail
  refine (HA2.out _ S5.out.2.2.2.2.1).mono ?_
  rintro e s6 ⟨rfl, hb⟩
  have S6 : Hid ((CB v1.heap.size qy ny (.slice oy ky ccy) s6) ∧ (ToldP E q nn K2 qy ny oy ky ccy s6) ∧ (CB v0.heap.size qx nx (.slice ox kx ccx) s6) ∧ (ToldP E q nn K1 qx nx ox kx ccx s6) ∧ (Below w.heap.size w s6) ∧ (CB w.heap.size q n (.slice ao m ca) s6) ∧ (CB (B) qa na (.slice oa ka cca) s6) ∧ (ToldZ E q nn w.heap.size K1 qa na oa ka cca s6) ∧ (CB (B + 1) qb nb (.slice ob kb ccb) s6) ∧ (ToldZ E q nn w.heap.size K2 qb nb ob kb ccb s6)) := ⟨S5.out.1.keep hb, S5.out.2.1.below hb, S5.out.2.2.1.keep hb, S5.out.2.2.2.1.below hb, bel_up' S5.out.2.2.2.2.1 hb, S5.out.2.2.2.2.2.1.keep hb, S5.out.2.2.2.2.2.2.1.keep hb, S5.out.2.2.2.2.2.2.2.1.below hb, S5.out.2.2.2.2.2.2.2.2.1.keep hb, S5.out.2.2.2.2.2.2.2.2.2.below hb⟩
  clear hb S5
  have hqc := S6.out.2.2.2.2.2.1
  obtain ⟨qc0, qc1, qc2⟩ := hqc
  have hlc := cell_lt qc0
  have hqa := S6.out.2.2.2.2.2.2.1
  obtain ⟨qa0, qa1, qa2⟩ := hqa
  have hla := cell_lt qa0
  have hqb := S6.out.2.2.2.2.2.2.2.2.1
  obtain ⟨qb0, qb1, qb2⟩ := hqb
  have hlb := cell_lt qb0
  go_wp2_with fail
  clear qc0 qc1 qc2 hlc qa0 qa1 qa2 hla qb0 qb1 qb2 hlb
  refine (HCW.out _ _ _ _ _ _ _ _ _ _ _ S6.out.2.2.2.2.1 S6.out.2.2.2.2.2.2.2.1 S6.out.2.2.2.2.2.2.2.2.2).mono ?_
  rintro e s7 ⟨rfl, hb⟩
  have S7 : Hid ((CB v1.heap.size qy ny (.slice oy ky ccy) s7) ∧ (ToldP E q nn K2 qy ny oy ky ccy s7) ∧ (CB v0.heap.size qx nx (.slice ox kx ccx) s7) ∧ (ToldP E q nn K1 qx nx ox kx ccx s7) ∧ (Below w.heap.size w s7) ∧ (CB w.heap.size q n (.slice ao m ca) s7) ∧ (CB (B) qa na (.slice oa ka cca) s7) ∧ (ToldZ E q nn w.heap.size K1 qa na oa ka cca s7) ∧ (CB (B + 1) qb nb (.slice ob kb ccb) s7) ∧ (ToldZ E q nn w.heap.size K2 qb nb ob kb ccb s7)) := ⟨S6.out.1.keep hb, S6.out.2.1.below hb, S6.out.2.2.1.keep hb, S6.out.2.2.2.1.below hb, bel_up' S6.out.2.2.2.2.1 hb, S6.out.2.2.2.2.2.1.keep hb, S6.out.2.2.2.2.2.2.1.keep hb, S6.out.2.2.2.2.2.2.2.1.below hb, S6.out.2.2.2.2.2.2.2.2.1.keep hb, S6.out.2.2.2.2.2.2.2.2.2.below hb⟩
  clear hb S6
  have hqc := S7.out.2.2.2.2.2.1
  obtain ⟨qc0, qc1, qc2⟩ := hqc
  have hlc := cell_lt qc0
  go_wp2_with fail
  clear qc0 qc1 qc2 hlc
  refine (HCT.out _ S7.out.2.2.2.2.1).mono ?_
  rintro e s8 ⟨rfl, hb⟩
  have S8 : Hid ((CB v1.heap.size qy ny (.slice oy ky ccy) s8) ∧ (ToldP E q nn K2 qy ny oy ky ccy s8) ∧ (CB v0.heap.size qx nx (.slice ox kx ccx) s8) ∧ (ToldP E q nn K1 qx nx ox kx ccx s8) ∧ (Below w.heap.size w s8) ∧ (CB w.heap.size q n (.slice ao m ca) s8) ∧ (CB (B) qa na (.slice oa ka cca) s8) ∧ (ToldZ E q nn w.heap.size K1 qa na oa ka cca s8) ∧ (CB (B + 1) qb nb (.slice ob kb ccb) s8) ∧ (ToldZ E q nn w.heap.size K2 qb nb ob kb ccb s8)) := ⟨S7.out.1.keep hb, S7.out.2.1.below hb, S7.out.2.2.1.keep hb, S7.out.2.2.2.1.below hb, bel_up' S7.out.2.2.2.2.1 hb, S7.out.2.2.2.2.2.1.keep hb, S7.out.2.2.2.2.2.2.1.keep hb, S7.out.2.2.2.2.2.2.2.1.below hb, S7.out.2.2.2.2.2.2.2.2.1.keep hb, S7.out.2.2.2.2.2.2.2.2.2.below hb⟩
  clear hb S7
  go_wp2
  go_ret
  exact ⟨by first | rfl | simp, S8.out.2.2.2.2.1⟩
end Go.Proofs.Ytbpeahhhkcljeaa
