/- TrellisMade: its walk. -/
import Derived.Test.YtlljaliemldjkaaZKV31
namespace Go.Proofs.Ytlljaliemldjkaa
open Go.RowKit Go.Sort

set_option maxHeartbeats 1000000 in
set_option maxRecDepth 100000 in
theorem tmade_long {ao : Option Addr} {n ca : Nat} (m k t a b : Int) (w : World) (hn : ¬ n ≤ 256) (hn2 : n ≤ 17592186044416) :
    Calls Try.prog 4 #[.slice ao n ca, .int .i64 m, .int .i64 k, .int .i64 t, .int .i64 a, .int .i64 b] w fun e w' => e = .returned (.bool true) ∧ Below w.heap.size w w' := by
  have h1 : (256 : Int) < (n : Int) := by omega
  go_enter Try.func4, Try.ntmps4
  go_wp2
  go_ret
  exact ⟨rfl, Below.refl _ _⟩

/-- A word of bits that WordOf makes. -/
theorem wordB_any {ao : Option Addr} {n ca : Nat} {z : Nat → Int} {w : World} (h : Arg ao n ca z w) (hn : n ≤ 1000) (f k : Nat) (hf : f ≤ 1000) (hk : k ≤ 1000) :
    Calls Try.prog 18 #[.slice ao n ca, .int .i64 f, .int .i64 k, .bool false] w fun e w' => ∃ (bo : Option Addr) (cb : Nat) (m : Nat → Nat), e = .returned (.slice bo k cb) ∧ BtA bo k m w' ∧ ArgL bo k cb (fun i => ((m i : Nat) : Int)) w' ∧ Below w.heap.size w w' := by
  refine (wordOf_any h hn f k false hf hk).mono ?_
  rintro e w' ⟨v, y, rfl, ho, hy, hb'⟩
  have hbt : ∀ j, j < k → y j = 0 ∨ y j = 1 := fun j hj => (hy j hj).resolve_right (fun h => by cases h.1)
  have e1 : zl k y = zl k fun i => (((y i).toNat : Nat) : Int) := zl_congr (fun j hj => by rcases hbt j hj with e | e <;> rw [e] <;> rfl)
  rw [e1] at ho
  obtain ⟨bo, cb, rfl, hA⟩ := ho.argL
  exact ⟨bo, cb, fun i => (y i).toNat, rfl, ⟨hA.sl, hA.lt, fun i hi => by rcases hbt i hi with e | e <;> rw [e] <;> decide⟩, hA, hb'⟩
/-- The list that RulesOf makes. -/
theorem rulesA_any {ao : Option Addr} {n ca : Nat} {z : Nat → Int} {w : World} (h : Arg ao n ca z w) (hn : n ≤ 1000) {many : Int} (hm : I64 many) :
    Calls Try.prog 17 #[.slice ao n ca, .int .i64 many] w fun e w' => ∃ (ro : Option Addr) (R rc : Nat) (y : Nat → Nat), e = .returned (.slice ro R rc) ∧ R ≤ 3 ∧ RlA ro R y w' ∧ ArgL ro R rc (fun i => ((y i : Nat) : Int)) w' ∧ Below w.heap.size w w' := by
  refine (rulesOf_any h hn hm).mono ?_
  rintro e w' ⟨v, R, y, rfl, ho, h1, h3, hy, hb'⟩
  obtain ⟨ro, rc, rfl, hA⟩ := ho.argL
  exact ⟨ro, R, rc, y, rfl, h3, ⟨⟨hA.sl, h1, h3, fun i hi => (hy i hi).1, fun i hi => (hy i hi).2⟩, hA.lt⟩, hA, hb'⟩
theorem rowZ_drewT {g N : Nat} {z : Nat → Int} {w : World} (h : RowZ g N z w) (k : Nat) : RowZ g N z (w.drewN k) := by
  obtain ⟨cap, f, h1, h2, h3⟩ := h
  exact ⟨cap, f, h1.drewN k, h2, h3⟩
theorem ArgL.below' {ao : Option Addr} {n cap : Nat} {z : Nat → Int} {w w' : World} (h : ArgL ao n cap z w) (hb : Below w.heap.size w w') : ArgL ao n cap z w' := ⟨h.sl.below hb h.lt, h.lt.mono hb.size, h.nil, h.le, h.cap⟩

set_option maxHeartbeats 16000000 in
set_option maxRecDepth 100000 in
theorem tmade_walk {ao : Option Addr} {n ca : Nat} {z : Nat → Int} (m k t a b : Int) {w : World} (ha : Arg ao n ca z w) (hn : n ≤ 256) (hm : I64 m) (hk : I64 k) (ht : I64 t) (hA : I64 a) (hB : I64 b) :
    Calls Try.prog 4 #[.slice ao n ca, .int .i64 m, .int .i64 k, .int .i64 t, .int .i64 a, .int .i64 b] w fun e w' => e = .returned (.bool true) ∧ Below w.heap.size w w' := by
  have hnb : ¬ (256 : Int) < (n : Int) := by omega
  obtain ⟨K, hK, hpK⟩ := pkt_any hk (n := 9) (by omega) (by omega)
  obtain ⟨T, hT, hpT⟩ := pkt_any ht (n := 6) (by omega) (by omega)
  obtain ⟨B0, hB0, hpB⟩ := pkt_any hB (n := 4) (by omega) (by omega)
  obtain ⟨B1, hB1⟩ : ∃ B1, B1 = 1 + B0 := ⟨_, rfl⟩
  have hB1w : IntKind.i64.wrap (1 + (B0 : Int)) = (B1 : Int) := wrap_to (by omega) (by omega)
  obtain ⟨B2, hB2⟩ : ∃ B2, B2 = B1 + 1 := ⟨_, rfl⟩
  have hB2w : IntKind.i64.wrap ((B1 : Int) + 1) = (B2 : Int) := wrap_to (by omega) (by omega)
  obtain ⟨A0, hA0, hpA⟩ := pkt_any hA (n := B2) (by omega) (by omega)
  have HPK : Hid (∀ w : World, Calls Try.prog 19 #[.int .i64 k, .int .i64 9] w fun e w' => e = .returned (.int .i64 (K : Nat)) ∧ w' = w) := hpK
  have HPT : Hid (∀ w : World, Calls Try.prog 19 #[.int .i64 t, .int .i64 6] w fun e w' => e = .returned (.int .i64 (T : Nat)) ∧ w' = w) := hpT
  have HPB : Hid (∀ w : World, Calls Try.prog 19 #[.int .i64 b, .int .i64 4] w fun e w' => e = .returned (.int .i64 (B0 : Nat)) ∧ w' = w) := hpB
  have HPA : Hid (∀ w : World, Calls Try.prog 19 #[.int .i64 a, .int .i64 (B2 : Nat)] w fun e w' => e = .returned (.int .i64 (A0 : Nat)) ∧ w' = w) := hpA
  have HPi : Hid (∀ (P : Nat), 0 < P → P ≤ 1000 → ∀ x, I64 x → ∃ k : Nat, k < P ∧ ∀ w : World, Calls Try.prog 19 #[.int .i64 x, .int .i64 (P : Nat)] w fun e w' => e = .returned (.int .i64 k) ∧ w' = w) := fun P h1 h2 x hx => pkt_any hx h1 h2
  have HRu : Hid (Calls Try.prog 17 #[.slice ao n ca, .int .i64 m] w fun e w' => ∃ (ro : Option Addr) (R rc : Nat) (y : Nat → Nat), e = .returned (.slice ro R rc) ∧ R ≤ 3 ∧ RlA ro R y w' ∧ ArgL ro R rc (fun i => ((y i : Nat) : Int)) w' ∧ Below w.heap.size w w') := rulesA_any ha (by omega) hm
  have HWo : Hid (∀ wx, Below w.heap.size w wx → Calls Try.prog 18 #[.slice ao n ca, .int .i64 5, .int .i64 (K : Nat), .bool false] wx fun e w' => ∃ (bo : Option Addr) (cb : Nat) (m : Nat → Nat), e = .returned (.slice bo K cb) ∧ BtA bo K m w' ∧ ArgL bo K cb (fun i => ((m i : Nat) : Int)) w' ∧ Below wx.heap.size wx w') := fun wx hx => wordB_any (ha.below hx) (by omega) 5 K (by omega) (by omega)
  have HRw : Hid (∀ (i : Nat) wx, i ≤ 1000 → Below w.heap.size w wx → Calls Try.prog 20 #[.slice ao n ca, .int .i64 (i : Nat)] wx fun e w' => (∃ r, e = .returned (.int .i64 r) ∧ I64 r) ∧ ∃ k, w' = wx.drewN k) := fun i wx hi hx => raw_any (ha.below hx) (by omega) i (by omega)
  have HSy : Hid (∀ {ro bo so : Option Addr} {R rc cb l sc : Nat} {z x y : Nat → Int} {wx : World}, ArgL ro R rc z wx → ArgL bo K cb x wx → ArgL so l sc y wx → R ≤ 3 → l ≤ 1000 → Calls Try.prog 3 #[.slice ro R rc, .slice bo K cb, .slice so l sc, .int .i64 (A0 : Nat), .int .i64 (B1 : Nat)] wx fun e w' => e = .returned (.bool true) ∧ Below wx.heap.size wx w') := fun h1 h2 h3 h4 h5 => trellisSays_walk h1 h2 h3 (by omega) (by omega) (by omega)
  clear ha hm hk ht hA hB hpK hpT hpB hpA hB1 hB2
  go_enter Try.func4, Try.ntmps4
  go_wp2_with fail
  refine HRu.out.mono ?_
  rintro e w1 ⟨ro, R, rc, y, rfl, hR3, hrl, hra, hb1⟩
  have H1 : Hid (RlA ro R y w1 ∧ ArgL ro R rc (fun i => ((y i : Nat) : Int)) w1 ∧ Below w.heap.size w w1) := ⟨hrl, hra, hb1⟩
  clear hrl hra hb1 HRu
  go_wp2_with fail
  refine (HPK.out w1).mono ?_
  rintro e w' ⟨rfl, hw⟩
  have hw := hw.symm
  subst hw
  go_wp2_with fail
  refine (HWo.out w1 H1.out.2.2).mono ?_
  rintro e w2 ⟨bo, cb, mm, rfl, hbt, hba, hb2⟩
  have H2 : Hid (RlA ro R y w2 ∧ ArgL ro R rc (fun i => ((y i : Nat) : Int)) w2 ∧ BtA bo K mm w2 ∧ ArgL bo K cb (fun i => ((mm i : Nat) : Int)) w2 ∧ Below w.heap.size w w2) := ⟨H1.out.1.below hb2, H1.out.2.1.below' hb2, hbt, hba, bel_up' H1.out.2.2 hb2⟩
  clear hbt hba hb2 HWo
  go_wp2_with fail
  refine (rsigns_any H2.out.1 H2.out.2.2.1 (by omega)).mono ?_
  rintro e w3 ⟨v, rfl, hown, hb3⟩
  obtain ⟨l, hl⟩ : ∃ l, l = R * (K + mmr y R) := ⟨_, rfl⟩
  have hlb : l ≤ 1000 := by
    have h1 := mmr_le y R
    have h2 : R * (K + mmr y R) ≤ 3 * 24 := Nat.mul_le_mul hR3 (by omega)
    omega
  have H3 : Hid (ArgL ro R rc (fun i => ((y i : Nat) : Int)) w2 ∧ ArgL bo K cb (fun i => ((mm i : Nat) : Int)) w2 ∧ Below w.heap.size w w2 ∧ Below w2.heap.size w2 w3) := ⟨H2.out.2.1, H2.out.2.2.2.1, H2.out.2.2.2.2, hb3⟩
  rw [← hl] at hown
  have hown : OwnI w2.heap.size v (zl l fun i => ((sgn' y R mm K i : Nat) : Int)) w3 := hown
  clear hl hb3
  by_cases h0 : l = 0
  · subst h0
    obtain ⟨so, sc, rfl, hsa⟩ := hown.argL
    have HS : Hid (ArgL so 0 sc (fun i => ((sgn' y R mm K i : Nat) : Int)) w3) := hsa
    clear hown hsa
    go_wp2
    go_loopw [16] (fun vi wr => vi = .int .i64 0 ∧ wr = w3) (fun vi _ => 0)
    case atStart => exact ⟨rfl, rfl⟩
    case round =>
      obtain ⟨rfl, hwr⟩ := hrel
      rename World => wr
      have hwr := hwr.symm
      subst hwr
      by_cases hT0 : 0 < T
      · have hTi : (0 : Int) < (T : Int) := by omega
        go_wp2_with fail
        refine (HPT.out w3).mono ?_
        rintro e w' ⟨rfl, hw⟩
        have hw := hw.symm
        subst hw
        go_wp2_with fail
        refine (HPB.out w3).mono ?_
        rintro e w' ⟨rfl, hw⟩
        have hw := hw.symm
        subst hw
        go_wp2_with fail
        refine (HPA.out w3).mono ?_
        rintro e w' ⟨rfl, hw⟩
        have hw := hw.symm
        subst hw
        go_wp2_with fail
        refine (HSy.out (H3.out.1.below' H3.out.2.2.2) (H3.out.2.1.below' H3.out.2.2.2) HS.out hR3 (by omega)).mono ?_
        rintro e w8 ⟨rfl, hb8⟩
        have H8 : Hid (Below w.heap.size w w8) := bel_up' (bel_up' H3.out.2.2.1 H3.out.2.2.2) hb8
        clear hb8
        go_wp2
        go_ret
        exact ⟨rfl, H8.out⟩
      · have hTi : ¬ (0 : Int) < (T : Int) := by omega
        go_wp2_with fail
        refine (HPT.out w3).mono ?_
        rintro e w' ⟨rfl, hw⟩
        have hw := hw.symm
        subst hw
        go_wp2_with fail
        refine (HPB.out w3).mono ?_
        rintro e w' ⟨rfl, hw⟩
        have hw := hw.symm
        subst hw
        go_wp2_with fail
        refine (HPA.out w3).mono ?_
        rintro e w' ⟨rfl, hw⟩
        have hw := hw.symm
        subst hw
        go_wp2_with fail
        refine (HSy.out (H3.out.1.below' H3.out.2.2.2) (H3.out.2.1.below' H3.out.2.2.2) HS.out hR3 (by omega)).mono ?_
        rintro e w8 ⟨rfl, hb8⟩
        have H8 : Hid (Below w.heap.size w w8) := bel_up' (bel_up' H3.out.2.2.1 H3.out.2.2.2) hb8
        clear hb8
        go_wp2
        go_ret
        exact ⟨rfl, H8.out⟩
  · obtain ⟨g, sc, rfl, h91, h92, h93, h94⟩ := hown.rowZ (by omega)
    have hlp : (0 : Int) < (l : Int) := by omega
    have HZ : Hid (w2.heap.size ≤ g ∧ l ≤ sc ∧ sc ≤ 9223372036854775807) := ⟨h93, h91, h92⟩
    have HZ2 : Hid (RowZ g l (fun i => ((sgn' y R mm K i : Nat) : Int)) w3 ∧ ∀ i, i < l → ((sgn' y R mm K i : Nat) : Int) = 0 ∨ ((sgn' y R mm K i : Nat) : Int) = 1) := ⟨h94, fun i _ => by have := sgb_le (y (i % R)) (snm mm K (i / R + 1)); unfold sgn'; omega⟩
    clear hown h92 h93 h94
    go_wp2
    go_loopw [16] (fun vi wr => ∃ (i : Nat) (s : Nat → Int), i ≤ T ∧ vi = .int .i64 (i : Nat) ∧ Hid (RowZ g l s wr ∧ (∀ i, i < l → s i = 0 ∨ s i = 1) ∧ Below w2.heap.size w2 wr)) (fun vi _ => T - (intOf vi).toNat)
    case atStart => exact ⟨0, _, by omega, rfl, HZ2.out.1, HZ2.out.2, H3.out.2.2.2⟩
    case round =>
      obtain ⟨i, s, hi, rfl, HG⟩ := hrel
      rename World => wr
      by_cases hlt : i < T
      · have hib : (i : Int) < (T : Int) := by omega
        obtain ⟨I3, hI3⟩ : ∃ I3, I3 = 30 + i := ⟨_, rfl⟩
        have hI3w : IntKind.i64.wrap (30 + (i : Int)) = (I3 : Int) := wrap_to (by omega) (by omega)
        have HRr : Hid (Calls Try.prog 20 #[.slice ao n ca, .int .i64 (I3 : Nat)] wr fun e w' => (∃ r, e = .returned (.int .i64 r) ∧ I64 r) ∧ ∃ k, w' = wr.drewN k) := HRw.out I3 wr (by omega) (bel_up' H3.out.2.2.1 HG.out.2.2)
        clear hI3
        go_wp2_with fail
        refine (HPT.out wr).mono ?_
        rintro e w' ⟨rfl, hw⟩
        have hw := hw.symm
        subst hw
        go_wp2_with fail
        refine HRr.out.mono ?_
        rintro e w4 ⟨⟨x, rfl, hx⟩, kk, hw4⟩
        obtain ⟨q, hq, hpq⟩ := HPi.out l (by omega) hlb x hx
        have HPq : Hid (∀ w : World, Calls Try.prog 19 #[.int .i64 x, .int .i64 (l : Nat)] w fun e w' => e = .returned (.int .i64 (q : Nat)) ∧ w' = w) := hpq
        have H4 : Hid (RowZ g l s w4 ∧ Below w2.heap.size w2 w4) := by rw [hw4]; exact ⟨rowZ_drewT HG.out.1 _, below_drewN2 HG.out.2.2 kk⟩
        have hcell := H4.out.1.cell q hq
        have hfree := H4.out.1.free q
        obtain ⟨b1, hb1⟩ : ∃ b1, b1 = s q := ⟨_, rfl⟩
        rw [← hb1] at hcell
        have hbb : b1 = 0 ∨ b1 = 1 := by rw [hb1]; exact HG.out.2.1 q hq
        have hqi : (q : Int) < (l : Int) := by omega
        have hqi0 : (0 : Int) ≤ (q : Int) := by omega
        have hsw : IntKind.i64.wrap (1 - b1) = 1 - b1 := by rcases hbb with e | e <;> rw [e] <;> rfl
        have HN : Hid (RowZ g l (fun j => if j = q then 1 - b1 else s j) (w4.setCell ⟨g, q, none⟩ (.int .i64 (1 - b1))) ∧ (∀ i, i < l → (if i = q then 1 - b1 else s i) = 0 ∨ (if i = q then 1 - b1 else s i) = 1) ∧ Below w2.heap.size w2 (w4.setCell ⟨g, q, none⟩ (.int .i64 (1 - b1)))) := by
          refine ⟨H4.out.1.store q (1 - b1) (fun j _ => rfl), fun i hi => ?_, H4.out.2.setCell HZ.out.1 _⟩
          split
          · omega
          · exact HG.out.2.1 i hi
        clear hb1 hx hpq hw4 hbb
        go_wp2_with fail
        refine (HPq.out w4).mono ?_
        rintro e w' ⟨rfl, hw⟩
        have hw := hw.symm
        subst hw
        go_wp2
        go_roundw
        case rel => exact ⟨i + 1, _, by omega, by go_num, HN.out⟩
        case measure => simp [intOf]; omega
      · have hib : ¬ (i : Int) < (T : Int) := by omega
        go_wp2_with fail
        refine (HPT.out wr).mono ?_
        rintro e w' ⟨rfl, hw⟩
        have hw := hw.symm
        subst hw
        go_wp2_with fail
        refine (HPB.out wr).mono ?_
        rintro e w' ⟨rfl, hw⟩
        have hw := hw.symm
        subst hw
        go_wp2_with fail
        refine (HPA.out wr).mono ?_
        rintro e w' ⟨rfl, hw⟩
        have hw := hw.symm
        subst hw
        go_wp2_with fail
        refine (HSy.out (H3.out.1.below' HG.out.2.2) (H3.out.2.1.below' HG.out.2.2) (y := s) ⟨HG.out.1.slz, fun a e => (by cases e; exact HG.out.1.lt'), fun e => (by cases e), HZ.out.2.1, HZ.out.2.2⟩ hR3 hlb).mono ?_
        rintro e w8 ⟨rfl, hb8⟩
        have H8 : Hid (Below w.heap.size w w8) := bel_up' (bel_up' H3.out.2.2.1 HG.out.2.2) hb8
        clear hb8
        go_wp2
        go_ret
        exact ⟨rfl, H8.out⟩
end Go.Proofs.Ytlljaliemldjkaa
