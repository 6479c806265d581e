/- Texts of ours, one behind the other: KU1 KU2 KU3 KU4 KU5. -/
import Derived.Test.YtpgaakjldlcejaaDoorZW22
import Derived.Test.YtpgaakjldlcejaaDoorZS78
import Derived.Deep.CutBlock
import Derived.Deep.DeepCutAuto
import Derived.Test.YtpgaakjldlcejaaDoorZKD10
/- Golay: math/bits.OnesCount64 of any number. -/
namespace Go.Proofs.YtpgaakjldlcejaaDoor
open Go.RowKit

theorem and_i64n {a b : Nat} (ha : a < 9223372036854775808) (hb : b < 9223372036854775808) : bits BinOp.and IntKind.i64 (a : Int) (b : Int) = ((a &&& b : Nat) : Int) := by
  show IntKind.i64.wrap ((BitVec.ofInt 64 (a : Int) &&& BitVec.ofInt 64 (b : Int)).toNat : Int) = _
  rw [BitVec.toNat_and, ofi64 (by omega), ofi64 (by omega)]
  have h : a &&& b ≤ a := Nat.and_le_left
  exact wrap_to rfl (by omega)
theorem msk_a : msk 0x55 8 = 6148914691236517205 := by decide +kernel
theorem msk_b : msk 0x33 8 = 3689348814741910323 := by decide +kernel
theorem msk_c : msk 0x0f 8 = 1085102592571150095 := by decide +kernel
/-- What the first two steps come to. -/
theorem ones_step {x d m : Nat} (hx : x < 18446744073709551616) (hm : m < 9223372036854775808) : IntKind.u64.wrap (bits BinOp.and IntKind.u64 ((x : Int) / (d : Int)) (m : Int) + bits BinOp.and IntKind.u64 (x : Int) (m : Int)) = (((x / d &&& m) + (x &&& m) : Nat) : Int) ∧ (x / d &&& m) + (x &&& m) ≤ 2 * m := by
  have h1 : x / d < 18446744073709551616 := Nat.lt_of_le_of_lt (Nat.div_le_self _ _) hx
  have a1 : x / d &&& m ≤ m := Nat.and_le_right
  have a2 : x &&& m ≤ m := Nat.and_le_right
  rw [← Int.natCast_ediv, and_u64 h1 (by omega), and_u64 hx (by omega)]
  refine ⟨?_, by omega⟩
  rw [← Int.natCast_add]
  exact wrap_u64 (by omega)

set_option maxHeartbeats 4000000 in
set_option maxRecDepth 100000 in
theorem ones64U {s : Nat} (hs : s < 18446744073709551616) (w : World) : Calls Tryd.prog 29 #[.int .u64 (s : Nat)] w fun e w' => e = .returned (.int .i64 (bcn 64 s : Nat)) ∧ w' = w := by
  obtain ⟨x1, h1⟩ : ∃ x1, x1 = sw1 8 s := ⟨_, rfl⟩
  obtain ⟨x2, h2⟩ : ∃ x2, x2 = sw2 8 x1 := ⟨_, rfl⟩
  obtain ⟨x3, h3⟩ : ∃ x3, x3 = sw3 8 x2 := ⟨_, rfl⟩
  have e1 := ones_step (d := 2) (m := 6148914691236517205) hs (by omega)
  have k1 : (s / 2 &&& 6148914691236517205) + (s &&& 6148914691236517205) = x1 := by rw [h1]; unfold sw1; rw [msk_a]
  rw [k1] at e1
  have e2 := ones_step (x := x1) (d := 4) (m := 3689348814741910323) (by have := e1.2; omega) (by omega)
  have k2 : (x1 / 4 &&& 3689348814741910323) + (x1 &&& 3689348814741910323) = x2 := by rw [h2]; unfold sw2; rw [msk_b]
  rw [k2] at e2
  have b2 : x2 ≤ 7378697629483820646 := e2.2
  obtain ⟨y2, hy2⟩ : ∃ y2, y2 = x2 / 16 + x2 := ⟨_, rfl⟩
  have e3a : IntKind.u64.wrap ((x2 : Int) / 16 + (x2 : Int)) = (y2 : Int) := by
    have e : ((x2 : Int) / 16 + (x2 : Int)) = ((x2 / 16 + x2 : Nat) : Int) := by omega
    rw [e, hy2]
    exact wrap_u64 (by omega)
  have e3b : bits BinOp.and IntKind.u64 (y2 : Int) 1085102592571150095 = (x3 : Int) := by
    have h := and_u64 (a := y2) (b := 1085102592571150095) (by omega) (by omega)
    rw [h3]
    unfold sw3
    rw [msk_c, ← hy2]
    exact h
  have hc : x3 = cts 8 s := by rw [h3, h2, h1]; exact sw_all 8 s
  obtain ⟨x4, h4⟩ : ∃ x4, x4 = x3 + x3 / 256 := ⟨_, rfl⟩
  obtain ⟨x5, h5⟩ : ∃ x5, x5 = x4 + x4 / 65536 := ⟨_, rfl⟩
  obtain ⟨x6, h6⟩ : ∃ x6, x6 = x5 + x5 / 4294967296 := ⟨_, rfl⟩
  obtain ⟨hb, b3⟩ := swar_ones s x3 x4 x5 x6 hc h4 h5 h6
  have b4 : x4 < 2305843009213693952 := by omega
  have b5 : x5 < 4611686018427387904 := by omega
  have b6 : x6 < 9223372036854775808 := by omega
  have e4 : IntKind.u64.wrap ((x3 : Int) + (x3 : Int) / 256) = (x4 : Int) := by
    have e : ((x3 : Int) + (x3 : Int) / 256) = ((x4 : Nat) : Int) := by omega
    rw [e]; exact wrap_u64 (by omega)
  have e5 : IntKind.u64.wrap ((x4 : Int) + (x4 : Int) / 65536) = (x5 : Int) := by
    have e : ((x4 : Int) + (x4 : Int) / 65536) = ((x5 : Nat) : Int) := by omega
    rw [e]; exact wrap_u64 (by omega)
  have e6 : IntKind.u64.wrap ((x5 : Int) + (x5 : Int) / 4294967296) = (x6 : Int) := by
    have e : ((x5 : Int) + (x5 : Int) / 4294967296) = ((x6 : Nat) : Int) := by omega
    rw [e]; exact wrap_u64 (by omega)
  have e7 : IntKind.i64.wrap (x6 : Int) = (x6 : Int) := wrap_to rfl (by omega)
  have e8 : bits BinOp.and IntKind.i64 (x6 : Int) 127 = ((bcn 64 s : Nat) : Int) := by
    have h := and_i64n (a := x6) (b := 127) b6 (by omega)
    rw [← hb]
    have h2 : x6 &&& 127 = x6 % 128 := Nat.and_two_pow_sub_one_eq_mod x6 7
    rw [← h2]; exact h
  have f1 : IntKind.u64.wrap (bits BinOp.and IntKind.u64 ((s : Int) / 2) 6148914691236517205 + bits BinOp.and IntKind.u64 (s : Int) 6148914691236517205) = (x1 : Int) := e1.1
  have f2 : IntKind.u64.wrap (bits BinOp.and IntKind.u64 ((x1 : Int) / 4) 3689348814741910323 + bits BinOp.and IntKind.u64 (x1 : Int) 3689348814741910323) = (x2 : Int) := e2.1
  have HX : Hid (bits BinOp.and IntKind.i64 (x6 : Int) 127 = ((bcn 64 s : Nat) : Int)) := e8
  clear h1 h2 h3 h4 h5 h6 hc hb e1 e2 k1 k2 hy2 e8
  go_enter Tryd.func29, Tryd.ntmps29
  go_upto_region 2 with fail
  try rw [f1]
  go_upto_region 3 with fail
  try rw [f2]
  go_upto_region 4 with fail
  try rw [e3a]
  try rw [e3b]
  go_upto_region 5 with fail
  try rw [e4]
  go_upto_region 6 with fail
  try rw [e5]
  go_upto_region 7 with fail
  try rw [e6]
  go_wp2
  go_ret
  exact ⟨by rw [← HX.out]; first | rfl | rw [e7], rfl⟩
end Go.Proofs.YtpgaakjldlcejaaDoor

/- Lists of places in order: the reference's Below (printed by make/ku2.py). -/
namespace Go.Proofs.YtpgaakjldlcejaaDoor
open Go.RowKit Go.Sort

/-- The value is a word of m numbers, whose number is key. -/
def WdL (m : Nat) (u : Value) (key : Nat) (w : World) : Prop := ∃ c, OwnI 0 u (wz m c) w ∧ (∀ j, c j < 64) ∧ dnum 64 c m = key
theorem WdL.below {m key : Nat} {u : Value} {w w' : World} (h : WdL m u key w) (hb : Below w.heap.size w w') : WdL m u key w' := by
  obtain ⟨c, h1, h2⟩ := h
  exact ⟨c, h1.below hb fun q hq => (h1.lt q hq).2, h2⟩
theorem WdL.one {m key : Nat} {u : Value} {w : World} (h : WdL m u key w) : u.oneCell' = true := by
  obtain ⟨c, h1, _⟩ := h
  obtain ⟨x, cx, rfl, _⟩ := OwnI.argL (n := m) (y := fun j => ((c j : Nat) : Int)) h1
  rfl
theorem WdL.ofG {m key base G K cap : Nat} {u : Value} {l : List Value} {w w' : World} (h : WdL m u key w) (ho : OwnV base (.slice (some ⟨G, 0, none⟩) K cap) l w) (hs : OfG G w w') : WdL m u key w' := by
  obtain ⟨c, h1, h2⟩ := h
  refine ⟨c, h1.same fun q hq => hs.same q (h1.lt q hq).2 fun e => ?_, h2⟩
  rcases h1.apart ho with x | x
  · rw [x] at hq; cases hq
  · exact x (by rw [hq, e]; rfl)
/-- What Sort leaves. -/
def SrL (m base G K cap : Nat) (vs : Nat → Value) (ks : Nat → Nat) (w w' : World) : Prop := ∃ us js, OwnV base (.slice (some ⟨G, 0, none⟩) K cap) (vl K us) w' ∧ (PLf us js 0 K).Perm (PLf vs ks 0 K) ∧ (∀ i j, i < j → j < K → js i ≤ js j) ∧ (∀ i, i < K → WdL m (us i) (js i) w') ∧ OfG G w w'
end Go.Proofs.YtpgaakjldlcejaaDoor

/- Lists of places in order: the reference's Sort (printed by make/ku2.py). -/
namespace Go.Proofs.YtpgaakjldlcejaaDoor
open Go.RowKit Go.Sort

end Go.Proofs.YtpgaakjldlcejaaDoor

/- Lists of places in order: slices.Compare (printed by make/ku2.py). -/
namespace Go.Proofs.YtpgaakjldlcejaaDoor
open Go.Shelf Go.RowKit Go.Lib Go.Sort

set_option maxHeartbeats 4000000 in
set_option maxRecDepth 100000 in
theorem scompL_any {ao bo : Option Addr} {m ca cb : Nat} {c d : Nat → Nat} {w : World} (hX : SlZ ao m (fun j => ((c j : Nat) : Int)) w) (hY : SlZ bo m (fun j => ((d j : Nat) : Int)) w) (hm : m ≤ 64) (hc : ∀ j, c j < 64) (hd : ∀ j, d j < 64) :
    Calls Tryd.prog 16 #[.slice ao m ca, .slice bo m cb] w fun e w' => e = .returned (.int .i64 (cmpZ (dnum 64 c m : Nat) (dnum 64 d m : Nat))) ∧ w' = w := by
  obtain ⟨R, hR⟩ : ∃ R, R = cmpZ (dnum 64 c m : Nat) (dnum 64 d m : Nat) := ⟨_, rfl⟩
  have HF : Hid (SlZ ao m (fun j => ((c j : Nat) : Int)) w ∧ SlZ bo m (fun j => ((d j : Nat) : Int)) w ∧ (∀ j, c j < 64) ∧ (∀ j, d j < 64) ∧ R = cmpZ (dnum 64 c m : Nat) (dnum 64 d m : Nat)) := ⟨hX, hY, hc, hd, hR⟩
  have HCm : Hid (∀ (x y : Int) (w : World), Calls Tryd.prog 33 #[.int .i64 x, .int .i64 y] w fun e w' => e = .returned (.int .i64 (cmpZ x y)) ∧ w' = w) := cmpI_any
  rw [← hR]
  have hmm : ¬ (m : Int) < (m : Int) := by omega
  clear hX hY hc hd hR
  go_enter Tryd.func16, Tryd.ntmps16
  go_wp2
  go_loopw [11] (fun vi wr => ∃ i : Nat, i ≤ m ∧ vi = .int .i64 (i : Nat) ∧ Hid ((∀ j, j < i → c j = d j) ∧ wr = w)) (fun vi _ => m - (intOf vi).toNat)
  case atStart => exact ⟨0, by omega, rfl, fun j hj => absurd hj (by omega), rfl⟩
  case round =>
    obtain ⟨i, hi, rfl, HG⟩ := hrel
    rename World => wr
    by_cases hlt : i < m
    · have hib : (i : Int) < (m : Int) := by omega
      have hib0 : (0 : Int) ≤ (i : Int) := by omega
      have hge : ¬ (m : Int) ≤ (i : Int) := by omega
      obtain ⟨ba, oa, hao, hca⟩ := HF.out.1 i hlt
      obtain ⟨bb, ob, hbo, hcb⟩ := HF.out.2.1 i hlt
      obtain ⟨x, hx⟩ : ∃ x, x = c i := ⟨_, rfl⟩
      obtain ⟨y, hy⟩ : ∃ y, y = d i := ⟨_, rfl⟩
      replace hca : wr.cell? ⟨ba, oa + i, none⟩ = some (.int .i64 (x : Nat)) := by rw [HG.out.2, hx]; exact hca
      replace hcb : wr.cell? ⟨bb, ob + i, none⟩ = some (.int .i64 (y : Nat)) := by rw [HG.out.2, hy]; exact hcb
      subst hao
      subst hbo
      obtain ⟨q, hq⟩ : ∃ q, q = cmpZ (x : Nat) (y : Nat) := ⟨_, rfl⟩
      have HQ : Hid (Calls Tryd.prog 33 #[.int .i64 (x : Nat), .int .i64 (y : Nat)] wr fun e w' => e = .returned (.int .i64 q) ∧ w' = wr) := by rw [hq]; exact HCm.out _ _ _
      by_cases hxy : x = y
      · have zq : (q != 0) = false := by rw [hq, hxy]; unfold cmpZ; rw [if_neg (by omega), if_neg (by omega)]; rfl
        have HN : Hid ((∀ j, j < i + 1 → c j = d j) ∧ wr = w) := by
          refine ⟨fun j hj => ?_, HG.out.2⟩
          by_cases e : j = i
          · rw [e, ← hx, ← hy, hxy]
          · exact HG.out.1 j (by omega)
        clear hx hy hxy hq
        go_wp2_with (go_at_call 33; refine HQ.out.mono ?_; rintro e w' ⟨rfl, hw⟩; have hw := hw.symm; subst hw)
        go_roundw
        case rel => exact ⟨i + 1, by omega, by go_num, HN.out⟩
        case measure => simp [intOf]; omega
      · have h13 : ∀ u : Nat → Nat, (∀ j, u j < 64) → ∀ t, t < i + 1 + (m - (i + 1)) → u t < 64 := fun u hu t _ => by have := hu t; omega
        have em : i + 1 + (m - (i + 1)) = m := by omega
        have HE : Hid (q = R ∧ wr = w) := by
          refine ⟨?_, HG.out.2⟩
          rw [hq, HF.out.2.2.2.2]
          unfold cmpZ
          rcases Nat.lt_or_ge x y with h | h
          · have h1 := dnum_lex (q := 64) HG.out.1 (show c i < d i by rw [← hx, ← hy]; exact h) (m - (i + 1)) (h13 c HF.out.2.2.1)
            rw [em] at h1
            rw [if_pos (by omega), if_pos (by omega)]
          · have h1 := dnum_lex (q := 64) (fun j hj => (HG.out.1 j hj).symm) (show d i < c i by rw [← hx, ← hy]; omega) (m - (i + 1)) (h13 d HF.out.2.2.2.1)
            rw [em] at h1
            rw [if_neg (by omega), if_pos (by omega), if_neg (by omega), if_pos (by omega)]
        have zq : (q != 0) = true := by
          rw [bne_iff_ne, hq]
          unfold cmpZ
          split
          · omega
          · rw [if_pos (by omega)]; omega
        clear hx hy hxy hq h13 em
        go_wp2_with (go_at_call 33; refine HQ.out.mono ?_; rintro e w' ⟨rfl, hw⟩; have hw := hw.symm; subst hw)
        go_ret
        exact ⟨by rw [← HE.out.1]; rfl, HE.out.2⟩
    · have hib : ¬ (i : Int) < (m : Int) := by omega
      have HE : Hid (R = 0 ∧ wr = w) := by
        refine ⟨?_, HG.out.2⟩
        rw [HF.out.2.2.2.2, dnum_congr (e := d) m (fun j hj => HG.out.1 j (by omega))]
        unfold cmpZ
        rw [if_neg (by omega), if_neg (by omega)]
      go_wp2
      go_ret
      exact ⟨by rw [HE.out.1]; rfl, HE.out.2⟩

/-- A word of m numbers that lies in w, and its number. -/
abbrev WLy (m : Nat) (w : World) : Type := { p : Value × Nat // WdL m p.1 p.2 w }
def WLy.enc {m : Nat} {w : World} (x : WLy m w) : Value := x.1.1
def WLy.key {m : Nat} {w : World} (x : WLy m w) : Nat := x.1.2
def WLy.cf {m : Nat} {w : World} (x y : WLy m w) : Int := cmpZ (x.key : Nat) (y.key : Nat)
theorem WLy.lt {m : Nat} {w : World} (x y : WLy m w) : ltOf WLy.cf x y = decide (x.key < y.key) := by
  unfold ltOf WLy.cf cmpZ
  by_cases h1 : x.key < y.key
  · rw [if_pos (by omega), decide_eq_true h1]; rfl
  · rw [if_neg (by omega), decide_eq_false h1]
    by_cases h2 : y.key < x.key
    · rw [if_pos (by omega)]; rfl
    · rw [if_neg (by omega)]; rfl
theorem WLy.swo {m : Nat} {w : World} : SWO (ltOf (WLy.cf (m := m) (w := w))) where
  irrefl x := by rw [WLy.lt]; simp
  trans x y z h1 h2 := by rw [WLy.lt] at *; simp at *; omega
  ntrans x y z h1 h2 := by rw [WLy.lt] at *; simp at *; omega
end Go.Proofs.YtpgaakjldlcejaaDoor

/- Lists of places in order: slices.SortFunc (printed by make/ku2.py). -/
namespace Go.Proofs.YtpgaakjldlcejaaDoor
open Go.Shelf Go.RowKit Go.Lib Go.Sort

theorem PLfL_list {m : Nat} {w : World} [Inhabited (WLy m w)] (d : Array (WLy m w)) : PLf (fun i => (d[i]!).enc) (fun i => (d[i]!).key) 0 d.size = d.toList.map fun x => (x.enc, x.key) := by
  unfold PLf
  apply List.ext_getElem?
  intro i
  by_cases hi : i < d.size
  · rw [List.getElem?_map, List.getElem?_range hi, List.getElem?_map, Array.getElem?_toList, Array.getElem?_eq_getElem hi]
    simp [getElem!_pos, hi]
  · rw [List.getElem?_eq_none (by simp; omega), List.getElem?_eq_none (by simp; omega)]

set_option maxHeartbeats 4000000 in
theorem ssortL_any {m base G K cap : Nat} {vs : Nat → Value} {ks : Nat → Nat} {w : World} (hm : m ≤ 64) (hK1 : 1 ≤ K) (hK : K ≤ 5000) (ho : OwnV base (.slice (some ⟨G, 0, none⟩) K cap) (vl K vs) w) (hw : ∀ i, i < K → WdL m (vs i) (ks i) w) :
    Calls Tryd.prog 15 #[.slice (some ⟨G, 0, none⟩) K cap, .func (.func 16) #[] #[]] w fun e w' => e = .returned (.tuple #[]) ∧ SrL m base G K cap vs ks w w' := by
  obtain ⟨_, hKc, hcm, hbG, hGs⟩ := ho.bounds
  obtain ⟨d, hd⟩ : ∃ d : Array (WLy m w), d = Array.ofFn (n := K) fun i => ⟨(vs i.1, ks i.1), hw i.1 i.2⟩ := ⟨_, rfl⟩
  have hds : d.size = K := by rw [hd]; exact Array.size_ofFn
  have inh : Inhabited (WLy m w) := ⟨⟨(vs 0, ks 0), hw 0 (by omega)⟩⟩
  have hdi : ∀ i, i < K → (d[i]!).enc = vs i ∧ (d[i]!).key = ks i := fun i hi => by
    have hi2 : i < d.size := by omega
    rw [getElem!_pos d i hi2]
    have e : d[i] = (⟨(vs i, ks i), hw i hi⟩ : WLy m w) := by
      subst hd
      exact Array.getElem_ofFn _
    rw [e]; exact ⟨rfl, rfl⟩
  have hH : Holds WLy.enc w G 0 d := fun j hj => by
    have hj2 : j < K := by omega
    rw [Nat.zero_add, (hdi j hj2).1]
    exact ho.at hj2
  have hcmp : CmpReads Tryd.prog 16 #[] (WLy.enc (m := m) (w := w)) WLy.cf G 0 d.size w := fun mm os dk _ x y => by
    have hof : OfG G w (sortWorld WLy.enc w G 0 mm dk os) := sortWorld_ofG WLy.enc hGs
    obtain ⟨cx, h1, h2, h3⟩ := x.2.ofG ho hof
    obtain ⟨cy, k1, k2, k3⟩ := y.2.ofG ho hof
    obtain ⟨xo, xc, e1, a1⟩ := OwnI.argL (n := m) (y := fun j => ((cx j : Nat) : Int)) h1
    obtain ⟨yo, yc, e2, a2⟩ := OwnI.argL (n := m) (y := fun j => ((cy j : Nat) : Int)) k1
    show Calls Tryd.prog _ #[x.1.1, y.1.1] _ _
    rw [e1, e2]
    refine (scompL_any a1.sl a2.sl hm h2 k2).mono ?_
    rintro e w' ⟨rfl, hw'⟩
    refine ⟨?_, 0, hw'⟩
    rw [h3, k3]; rfl
  have hcon := Any.slices_SortFunc sortL WLy.enc (fun x => x.2.one) WLy.cf WLy.swo 16 #[] G 0 cap d w enters_compare hcmp.lays hH hGs (by omega)
  rw [hds] at hcon
  change Calls Tryd.prog 15 _ _ _ at hcon
  refine hcon.mono ?_
  rintro e w' ⟨rfl, d', n, os, hp, hs, hw'⟩
  have hd's : d'.size = K := hp.1.trans hds
  have hof : OfG G w w' := by rw [hw']; exact sortWorld_ofG WLy.enc hGs
  refine ⟨rfl, fun i => (d'[i]!).enc, fun i => (d'[i]!).key, ?_, ?_, fun i j h1 h2 => ?_, fun i _ => (d'[i]!).2.ofG ho hof, hof⟩
  · have hH' : Holds WLy.enc w' G 0 d' := by rw [hw']; exact holds_sortWorld WLy.enc w G 0 n d d' os hGs hH (by omega)
    rcases ho.2 with ⟨h1, _⟩ | ⟨g, c, cur, hv, hg, hh, hle, hcm2, hsz, htake⟩
    · cases h1
    · rw [vl_len] at hv hle
      cases hv
      obtain ⟨cur', hh', hs'⟩ : ∃ cur' : Array Value, w'.heap[G]? = some (.cells cur' 32 (0, 0)) ∧ cur'.size = cur.size := by
        rw [hw']
        unfold sortWorld grow putRow mapBlock Sort.ahead
        refine ⟨putCells WLy.enc 0 d' cur, ?_, by unfold putCells; simp⟩
        show (w.heap.modify G _ ++ os)[G]? = _
        rw [Array.getElem?_append_left (by simpa using hGs), Array.getElem?_modify, if_pos rfl, hh]
        rfl
      refine ⟨by rw [vl_len]; omega, Or.inr ⟨G, cap, cur', by rw [vl_len], hg, hh', by rw [vl_len]; exact hle, hcm2, by omega, ?_⟩⟩
      rw [vl_len]
      apply List.ext_getElem?
      intro i
      rw [List.getElem?_take]
      by_cases hi : i < K
      · rw [if_pos (by omega), vl_get K _ i hi, Array.getElem?_toList]
        have h := (hH' i (by omega)).1
        rw [Nat.zero_add, cell_of_row w' G i cur' 32 (0, 0) hh'] at h
        exact h
      · rw [if_neg (by omega), List.getElem?_eq_none (by rw [vl_len]; omega)]
  · have e1 := PLfL_list d'
    have e2 := PLfL_list d
    rw [hd's] at e1
    rw [hds] at e2
    rw [PLf_congr (us := vs) (js := ks) (i := 0) (fun t ht => by rw [Nat.zero_add]; exact hdi t ht)] at e2
    rw [e1, e2]
    have h3 := hp.2.2
    rw [show (d'.extract 0 K) = d' by rw [← hd's]; exact Array.extract_size, show (d.extract 0 K) = d by rw [← hds]; exact Array.extract_size] at h3
    exact h3.map _
  · have h3 := hs i j (Nat.zero_le _) h1 h2
    rw [WLy.lt] at h3
    have h4 := of_decide_eq_false h3
    exact Nat.le_of_not_lt h4
end Go.Proofs.YtpgaakjldlcejaaDoor
