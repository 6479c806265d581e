/- Texts of ours, one behind the other: KU6 KU7 KU8 KU9 KU10 KU11 KU12. -/
import Derived.Test.YtpgaakjldlcejaaDoorZKU1
import Derived.Test.YtpgaakjldlcejaaDoorZS78
import Derived.Test.YtpgaakjldlcejaaDoorZS4
import Derived.Shelf.Spec.TrailingZeros
import Derived.Maps.OwnOps
import Derived.Maps.OwnSet
import Derived.Maps.RangeWalk
import Derived.Test.YtpgaakjldlcejaaDoorZKD10
import Derived.Test.YtpgaakjldlcejaaDoorZKL7
import Derived.Test.YtpgaakjldlcejaaDoorZI7
/- Golay: the set of a word's places, its size, its places. -/
namespace Go.Proofs.YtpgaakjldlcejaaDoor
open Go.RowKit Go.Sort

set_option maxHeartbeats 4000000 in
set_option maxRecDepth 100000 in
theorem notZero_any {ao : Option Addr} {n ca : Nat} {z : Nat → Int} {w : World} (hX : SlZ ao n z w) (hn : n ≤ 64) :
    Calls Tryd.prog 12 #[.slice ao n ca] w fun e w' => e = .returned (.int .u64 (nzs (fun i => !decide (z i = 0)) n : Nat)) ∧ w' = w := by
  have HX : Hid (SlZ ao n z w) := hX
  obtain ⟨p, hp⟩ : ∃ p : Nat → Bool, p = fun i => !decide (z i = 0) := ⟨_, rfl⟩
  rw [← hp]
  have HPp : Hid (∀ i, p i = !decide (z i = 0)) := fun i => by rw [hp]
  clear hX hp
  go_enter Tryd.func12, Tryd.ntmps12
  go_wp2
  go_loopw [3, 8] (fun vs vi wr => ∃ i s : Nat, vs = .int .u64 (s : Nat) ∧ vi = .int .i64 (i : Nat) ∧ i ≤ n ∧ Hid (s = nzs p i ∧ wr = w)) (fun _ vi _ => n - (intOf vi).toNat)
  case atStart => exact ⟨0, 0, rfl, rfl, by omega, rfl, rfl⟩
  case round =>
    obtain ⟨i, s, rfl, rfl, hi, HS⟩ := hrel
    have hw := HS.out.2.symm
    subst hw
    have hs : s < 18446744073709551616 := by rw [HS.out.1]; exact Nat.lt_of_lt_of_le (nzs_lt p i) (Nat.pow_le_pow_right (n := 2) (by omega) (show i ≤ 64 by omega))
    by_cases hlt : i < n
    · have hib : (i : Int) < (n : Int) := by omega
      have hib0 : (0 : Int) ≤ (i : Int) := by omega
      obtain ⟨b, off, e1, hcell⟩ := HX.out i hlt
      subst e1
      obtain ⟨v, hv⟩ : ∃ v, v = z i := ⟨_, rfl⟩
      rw [← hv] at hcell
      by_cases h0 : v = 0
      · have hz : (v != 0) = false := by rw [h0]; rfl
        have HN : Hid (s = nzs p (i + 1)) := by
          show _ = if p i = true then nzs p i ||| 2 ^ i else nzs p i
          rw [HPp.out i, ← hv, decide_eq_true h0, if_neg (by intro c; cases c)]
          exact HS.out.1
        clear hv h0 HS
        go_wp2
        go_roundw
        case rel => exact ⟨i + 1, s, rfl, by go_num, by omega, HN.out, by first | rfl | trivial⟩
        case measure => simp [intOf]; omega
      · have hz : (v != 0) = true := by rw [bne_iff_ne]; exact h0
        obtain ⟨P, hP⟩ : ∃ P, P = 2 ^ i := ⟨_, rfl⟩
        have hi64 : i < 64 := by omega
        have hPb : P < 18446744073709551616 := by rw [hP]; exact Nat.lt_of_lt_of_le (Nat.pow_lt_pow_right (by decide) hi64) (by decide)
        have hsh : (2 : Int) ^ i = (P : Int) := by rw [hP]; simp
        have hPw : IntKind.u64.wrap (P : Int) = (P : Int) := wrap_u64 hPb
        have hor : bits BinOp.or IntKind.u64 (s : Int) (P : Int) = ((s ||| P : Nat) : Int) := or_u64 hs hPb
        have HN : Hid (s ||| P = nzs p (i + 1)) := by
          show _ = if p i = true then nzs p i ||| 2 ^ i else nzs p i
          rw [HPp.out i, ← hv, decide_eq_false h0, if_pos (show (!false) = true from rfl), HS.out.1, hP]
        clear hP hv h0 HS
        go_wp2
        go_roundw
        case rel => exact ⟨i + 1, s ||| P, by first | rfl | rw [hor], by go_num, by omega, HN.out, by first | rfl | trivial⟩
        case measure => simp [intOf]; omega
    · have hib : ¬ (i : Int) < (n : Int) := by omega
      have hie : i = n := by omega
      subst hie
      go_wp2
      go_ret
      exact ⟨by rw [← HS.out.1]; rfl, rfl⟩
set_option maxHeartbeats 2000000 in
theorem gsize_any {s : Nat} (hs : s < 18446744073709551616) (w : World) : Calls Tryd.prog 13 #[.int .u64 (s : Nat)] w fun e w' => e = .returned (.int .i64 (bcn 64 s : Nat)) ∧ w' = w := by
  have HC : Hid (∀ w : World, Calls Tryd.prog 29 #[.int .u64 (s : Int)] w fun e w' => e = .returned (.int .i64 (bcn 64 s : Nat)) ∧ w' = w) := fun w => ones64U hs w
  go_enter Tryd.func13, Tryd.ntmps13
  go_wp2_with fail
  refine (HC.out w).mono ?_
  rintro e w' ⟨rfl, hw⟩
  have hw := hw.symm
  subst hw
  go_wp2
  go_ret
  exact ⟨rfl, by first | rfl | trivial⟩
/-- Numbers, as they are told. -/
def pzl (c : List Nat) : List Int := c.map fun j => ((j : Nat) : Int)
/-- The lowest place is told. -/
def TzOk (w0 : World) : Prop := ∀ (x : Nat) (wx : World), Below w0.heap.size w0 wx → 0 < x → x < 18446744073709551616 → Calls Tryd.prog 30 #[.int .u64 (x : Nat)] wx fun e w' => ∃ c m : Nat, e = .returned (.int .i64 (c : Nat)) ∧ x = 2 ^ c * (2 * m + 1) ∧ c < 64 ∧ w' = wx
set_option maxHeartbeats 4000000 in
set_option maxRecDepth 100000 in
theorem places_of {s0 : Nat} (hs0 : s0 < 18446744073709551616) {w : World} (hT : TzOk w) :
    Calls Tryd.prog 14 #[.int .u64 (s0 : Nat)] w fun e w' => ∃ v, e = .returned v ∧ OwnI w.heap.size v (pzl (plN s0)) w' ∧ Below w.heap.size w w' := by
  have HT : Hid (TzOk w) := hT
  clear hT
  go_enter Tryd.func14, Tryd.ntmps14
  go_wp2
  go_loopw [0, 3] (fun vs vl wr => ∃ (s : Nat) (D : List Nat), vs = .int .u64 (s : Nat) ∧ s < 18446744073709551616 ∧ D.length + (plN s).length ≤ 64 ∧ Hid (plN s0 = D ++ plN s ∧ OwnI w.heap.size vl (pzl D) wr ∧ Below w.heap.size w wr)) (fun vs _ _ => (intOf vs).toNat)
  case atStart =>
    refine ⟨s0, [], rfl, hs0, ?_, rfl, OwnI.nil _ _, Below.refl _ _⟩
    have := List.length_filter_le (fun i => s0.testBit i) (List.range 64)
    unfold plN
    simpa using this
  case round =>
    obtain ⟨s, D, rfl, hs, hl, HI⟩ := hrel
    rename World => wr
    have hsz := HI.out.2.2.size
    by_cases h0 : s = 0
    · subst h0
      have HE : Hid (D = plN s0) := by
        have h := HI.out.1
        rw [plN_zero, List.append_nil] at h
        exact h.symm
      go_wp2
      go_ret
      exact ⟨_, rfl, by rw [← HE.out]; exact HI.out.2.1, HI.out.2.2⟩
    · have hz : ((s : Int) != 0) = true := by rw [bne_iff_ne]; omega
      have HC : Hid (Calls Tryd.prog 30 #[.int .u64 (s : Nat)] wr fun e w' => ∃ c m : Nat, e = .returned (.int .i64 (c : Nat)) ∧ s = 2 ^ c * (2 * m + 1) ∧ c < 64 ∧ w' = wr) := HT.out s wr HI.out.2.2 (by omega) hs
      go_wp2_with fail
      refine HC.out.mono ?_
      rintro e w1 ⟨c, m, rfl, hsc, hc, hw⟩
      have hw := hw.symm
      subst hw
      obtain ⟨t, ht⟩ : ∃ t, t = s &&& (s - 1) := ⟨_, rfl⟩
      have hts : t < s := by
        have h1 : t ≤ s - 1 := by rw [ht]; exact Nat.and_le_right
        omega
      have HP : Hid (plN s = c :: plN t) := by rw [ht]; exact plN_next hsc hc
      have hl2 : (D ++ [c]).length + (plN t).length ≤ 64 := by
        have e := HP.out
        rw [e, List.length_cons] at hl
        rw [List.length_append, List.length_singleton]
        omega
      obtain ⟨s1, hs1⟩ : ∃ s1, s1 = s - 1 := ⟨_, rfl⟩
      have hsb : (s : Int) - 1 = (s1 : Int) := by omega
      have hsw : IntKind.u64.wrap (s1 : Int) = (s1 : Int) := wrap_u64 (by omega)
      have hand : bits BinOp.and IntKind.u64 (s : Int) (s1 : Int) = (t : Int) := by rw [ht, ← hs1]; exact and_u64 hs (by omega)
      have hDl : (pzl D).length ≤ 64 := by unfold pzl; rw [List.length_map]; omega
      clear HC hsc ht hs1 h0 hl
      go_wp2_with (first
        | (at_builtin; refine append_int rfl _ _ rfl w.heap.size _ (pzl D) rfl (HI.out.2.1.alloc _) ⟨_, 0, none⟩ 1 (c : Nat) rfl (by simp) (by omega) (by simp; omega) ?_; intro v2 w3 hown3 hgrow3))
      have HN : Hid (plN s0 = (D ++ [c]) ++ plN t ∧ OwnI w.heap.size v2 (pzl (D ++ [c])) w3 ∧ Below w.heap.size w w3) := by
        refine ⟨by rw [HI.out.1, HP.out, List.append_assoc]; rfl, ?_, (HI.out.2.2.alloc hsz _).grown hgrow3 (by simp; omega) (fun k hk => (HI.out.2.1.lt k hk).1)⟩
        have e : pzl (D ++ [c]) = pzl D ++ [(c : Int)] := by unfold pzl; rw [List.map_append]; rfl
        rw [e]; exact hown3
      clear hown3 hgrow3
      go_roundw
      case rel => exact ⟨t, D ++ [c], by first | rfl | rw [hand], by omega, hl2, HN.out⟩
      case measure => simp [intOf]; omega
end Go.Proofs.YtpgaakjldlcejaaDoor

/- Golay: math/bits.TrailingZeros64, where its table lies. -/
namespace Go.Proofs.YtpgaakjldlcejaaDoor
open Go.RowKit Go.Sort

/-- The table of TrailingZeros64 lies where the program has it. -/
def TzT (w : World) : Prop := TabAt 0 Lib.deBruijn64tab w

set_option maxHeartbeats 4000000 in
set_option maxRecDepth 100000 in
theorem tz64_any {x : Nat} (hx0 : 0 < x) (hx : x < 18446744073709551616) {w : World} (hT : TzT w) :
    Calls Tryd.prog 30 #[.int .u64 (x : Nat)] w fun e w' => ∃ c m : Nat, e = .returned (.int .i64 (c : Nat)) ∧ x = 2 ^ c * (2 * m + 1) ∧ c < 64 ∧ w' = w := by
  have hxn : x ≠ 0 := by omega
  obtain ⟨hlow, hk⟩ := Lib.lowest_bit 64 x hxn hx
  obtain ⟨hi, htab⟩ := Lib.deBruijn64_at _ hk
  have hcell := hT _ hi
  rw [htab] at hcell
  have key := tz64_key x _ hx hxn hlow
  obtain ⟨m, hm, hc⟩ := Lib.ctzFrom_spec 64 x hx0 hx
  have ec : Lib.ctz 64 x = Lib.ctzFrom 64 x := by unfold Lib.ctz; rw [if_neg hxn]
  obtain ⟨c, hce⟩ : ∃ c, c = Lib.ctz 64 x := ⟨_, rfl⟩
  rw [← ec, ← hce] at hm hc
  rw [← hce] at hk hi hcell key
  obtain ⟨idx, hidx⟩ : ∃ idx, idx = 2 ^ c * 285870213051353865 % 18446744073709551616 / 288230376151711744 := ⟨_, rfl⟩
  rw [← hidx] at hi hcell key
  have HE : Hid (x = 2 ^ c * (2 * m + 1) ∧ c < 64) := ⟨hm, hc⟩
  have hxz : ((x : Int) == 0) = false := by rw [beq_eq_false_iff_ne]; omega
  clear hT hxn hlow hk htab hm ec hce hidx
  go_enter Tryd.func30, Tryd.ntmps30
  go_wp2_with (simp only [key])
  go_ret
  exact ⟨c, m, rfl, HE.out.1, HE.out.2, rfl⟩
theorem tzOk_of {w : World} (h : ∀ wx, Below w.heap.size w wx → TzT wx) : TzOk w := fun _ wx hb h0 hx => tz64_any h0 hx (h wx hb)
end Go.Proofs.YtpgaakjldlcejaaDoor

/- Golay: how many words there are of each set: a map that the call makes. -/
namespace Go.Proofs.YtpgaakjldlcejaaDoor
open Go.RowKit Go.Maps

theorem gty_int : Tryd.prog.underlying 3 = some (.int .i64) := by kernel_rfl
theorem gty_set : Tryd.prog.underlying 43 = some (.int .u64) := by kernel_rfl
theorem gt_map : Tryd.prog.underlying 38 = some (.map 43 3) := by kernel_rfl
theorem gt_law : Keyed Tryd.prog 43 := int_keyed gty_set
theorem gt_zero (w : World) : (zeroValue 3).run Tryd.prog w = .ok (.int .i64 0) w := by kernel_rfl
theorem gt_wf {k : Nat} (h : k < 18446744073709551616) : (Lit.int .u64 (k : Nat)).wf = true := by
  have h1 : IntKind.u64.min = 0 := by decide +kernel
  have h2 : IntKind.u64.max = 18446744073709551615 := by decide +kernel
  simp only [Lit.wf, h1, h2, Bool.and_eq_true, decide_eq_true_eq]
  omega
theorem gt_key {k : Nat} (h : k < 18446744073709551616) : keyOf Tryd.prog 43 (.int .u64 (k : Nat)) = some (.int .u64 (k : Nat)) := keyOf_int_mk gty_set (gt_wf h)
/-- A map that has each set of a list, with a number that is not 0. -/
structure UgD (D : DataW Value) (L : List Nat) (c : Nat → Nat) : Prop where
  im : IsMap D
  at' : ∀ k : Nat, D.atKey (.int .u64 (k : Nat)) (.lit (.int .i64 0)) = .lit (.int .i64 (c k : Nat))
  has : ∀ x : Int, Maps.has D (.int .u64 x) = true ↔ ∃ k ∈ L, x = ((k : Nat) : Int)
  nd : L.Nodup
theorem UgD.nil : UgD (.map []) [] (fun _ => 0) := ⟨isMap_empty, fun _ => rfl, fun x => ⟨fun h => (by cases h), fun ⟨_, h, _⟩ => (by cases h)⟩, List.nodup_nil⟩
theorem gt_lit (x : Int) : WideAt.IsKeyLit (.int .u64 x) := by first | trivial | (unfold WideAt.IsKeyLit; trivial) | exact Or.inl ⟨_, _, rfl⟩ | simp [WideAt.IsKeyLit]
/-- The list with one set more. -/
def addL (L : List Nat) (k : Nat) : List Nat := if L.contains k = true then L else L ++ [k]
theorem addL_mem (L : List Nat) (k x : Nat) : x ∈ addL L k ↔ x ∈ L ∨ x = k := by
  unfold addL
  by_cases c : L.contains k = true
  · rw [if_pos c]
    refine ⟨Or.inl, fun h => h.elim id (fun e => ?_)⟩
    rw [e]; exact List.contains_iff_mem.1 c
  · rw [if_neg c, List.mem_append, List.mem_singleton]
theorem UgD.put {D : DataW Value} {L : List Nat} {c : Nat → Nat} (h : UgD D L c) (k v : Nat) : UgD (D.put (.int .u64 (k : Nat)) (.lit (.int .i64 (v : Nat)))) (addL L k) (fun j => if j = k then v else c j) := by
  refine ⟨h.im.put _ _, fun j => ?_, fun x => ?_, ?_⟩
  · by_cases e : j = k
    · rw [if_pos e, e]; exact atKey_put_same h.im (gt_lit _) _ _
    · rw [if_neg e, atKey_put_other (by intro c; cases c; exact e (by omega))]
      exact h.at' j
  · by_cases e : x = ((k : Nat) : Int)
    · subst e
      exact ⟨fun _ => ⟨k, (addL_mem L k k).2 (Or.inr rfl), rfl⟩, fun _ => has_put_same h.im (gt_lit _) _⟩
    · rw [has_put_other (by intro c; cases c; exact e rfl), h.has x]
      constructor
      · rintro ⟨j, hj, rfl⟩; exact ⟨j, (addL_mem L k j).2 (Or.inl hj), rfl⟩
      · rintro ⟨j, hj, rfl⟩
        rcases (addL_mem L k j).1 hj with a | a
        · exact ⟨j, a, rfl⟩
        · rw [a] at e; exact absurd rfl e
  · unfold addL
    by_cases c : L.contains k = true
    · rw [if_pos c]; exact h.nd
    · rw [if_neg c, List.nodup_append]
      refine ⟨h.nd, by simp, fun a ha b hb e => c ?_⟩
      rw [List.mem_singleton.1 hb] at e
      rw [← e]; exact List.contains_iff_mem.2 ha
/-- A map of sets in memory: n steps made it. -/
def Ug (B n : Nat) (L : List Nat) (c : Nat → Nat) (w : World) : Prop := ∃ D : DataW Value, w.ownsMap Tryd.prog 43 (plainElem Tryd.prog 3) B n D ∧ UgD D L c
theorem Ug.grc {B n : Nat} {L : List Nat} {c : Nat → Nat} {w w' : World} (h : Ug B n L c w) (e : w'.heap[B]? = w.heap[B]?) : Ug B n L c w' := by
  obtain ⟨D, ⟨es, clock, hb, Ft, hs, hD⟩, h2⟩ := h
  exact ⟨D, ⟨es, clock, e.trans hb, Ft, hs, hD⟩, h2⟩
end Go.Proofs.YtpgaakjldlcejaaDoor

/- Lists of places, as keys (printed by make/ku2.py). -/
namespace Go.Proofs.YtpgaakjldlcejaaDoor
open Go.RowKit Go.Sort

/-- Lists of m places each, told by their keys. -/
def KLm (base : Nat) (v : Value) (m : Nat) (N : List Nat) (w : World) : Prop := ∃ l, OwnV base v l w ∧ l.length = N.length ∧ ∀ (j : Nat) (u : Value) (k : Nat), l[j]? = some u → N[j]? = some k → WdL m u k w
theorem KLm.nil (base m : Nat) (w : World) : KLm base (.slice none 0 0) m [] w := ⟨[], OwnV.nil _ _, rfl, fun j u c h => by simp at h⟩
theorem KLm.below {base m : Nat} {v : Value} {N : List Nat} {w w' : World} (h : KLm base v m N w) (hb : Below w.heap.size w w') : KLm base v m N w' := by
  obtain ⟨l, h1, h2, h3⟩ := h
  exact ⟨l, h1.below hb (Nat.le_refl _), h2, fun j u k hu hk => (h3 j u k hu hk).below hb⟩
theorem wdl_words {m key : Nat} {u : Value} {w : World} (h : WdL m u key w) : ∃ x cx, u = .slice x m cx ∧ Sl x m (dgs 64 m key) w := by
  obtain ⟨c, h1, h2, h3⟩ := h
  obtain ⟨x, cx, e, ha⟩ := OwnI.argL (n := m) (y := fun j => ((c j : Nat) : Int)) h1
  refine ⟨x, cx, e, fun j hj => ?_⟩
  obtain ⟨b, off, e2, hc⟩ := ha.sl j hj
  refine ⟨b, off, e2, ?_⟩
  have hlt : dnum 64 c m < 64 ^ m := dnum_lt m fun i _ => by have := h2 i; omega
  have he := dnum_inj (q := 64) (c := dgs 64 m (dnum 64 c m)) (e := c) m (fun i _ => dgs_lt (by omega) i) (fun i _ => by have := h2 i; omega) (dnum_dgs (by omega) hlt) j hj
  rw [← h3, he]; exact hc
theorem KLm.rl {base m : Nat} {v : Value} {N : List Nat} {w : World} (h : KLm base v m N w) : RL v N.length m (fun i => dgs 64 m (N.getD i 0)) w := by
  obtain ⟨l, h1, h2, h3⟩ := h
  obtain ⟨ao, cap, e, _, _, _, hc⟩ := h1.open
  rw [h2] at e
  refine ⟨ao, cap, e, fun i hi => ?_⟩
  obtain ⟨u, hu⟩ : ∃ u, l[i]? = some u := ⟨_, List.getElem?_eq_getElem (by omega)⟩
  have hL : N[i]? = some (N.getD i 0) := by
    rw [List.getD_eq_getElem?_getD, List.getElem?_eq_getElem hi]; rfl
  obtain ⟨g, e1, hcell, _⟩ := hc i u hu
  obtain ⟨x, cx, rfl, ha⟩ := wdl_words (h3 i u _ hu hL)
  exact ⟨g, 0, x, cx, e1, by rw [Nat.zero_add]; exact hcell, ha⟩
theorem SrL.kls {m base G K cap : Nat} {vs : Nat → Value} {ks : Nat → Nat} {w w' : World} (h : SrL m base G K cap vs ks w w') : ∃ N, N.length = K ∧ N.Perm ((List.range K).map ks) ∧ List.Pairwise (fun a b => a ≤ b) N ∧ KLm base (.slice (some ⟨G, 0, none⟩) K cap) m N w' := by
  obtain ⟨us, js, h1, h2, h3, h4, h5⟩ := h
  refine ⟨(List.range K).map js, by simp, ?_, ?_, vl K us, h1, by rw [vl_len]; simp, fun j u k hu hk => ?_⟩
  · have := h2.map Prod.snd
    rw [PLf_keys, PLf_keys] at this
    exact this
  · rw [List.pairwise_map]
    refine List.Pairwise.imp_of_mem (fun {a b} ha hb hab => h3 a b hab (List.mem_range.1 hb)) List.pairwise_lt_range
  · have hj : j < K := by
      have := (List.getElem?_eq_some_iff.1 hu).1
      rwa [vl_len] at this
    rw [vl_get K us j hj] at hu
    rw [List.getElem?_map, List.getElem?_range hj] at hk
    cases hu
    cases hk
    exact h4 j hj
theorem KLm.item {base m k cap : Nat} {ao : Option Addr} {N : List Nat} {w : World} (h : KLm base (.slice ao k cap) m N w) {j : Nat} (hj : j < N.length) : ∃ g x cx, ao = some ⟨g, 0, none⟩ ∧ w.cell? ⟨g, j, none⟩ = some (.slice x m cx) ∧ WdL m (.slice x m cx) (N.getD j 0) w := by
  obtain ⟨l, h1, h2, h3⟩ := h
  obtain ⟨ao', cap', e, _, _, _, hc⟩ := h1.open
  obtain ⟨u, hu⟩ : ∃ u, l[j]? = some u := ⟨_, List.getElem?_eq_getElem (by omega)⟩
  have hN : N[j]? = some (N.getD j 0) := by rw [List.getD_eq_getElem?_getD, List.getElem?_eq_getElem hj]; rfl
  obtain ⟨g, e1, hcell, _⟩ := hc j u hu
  have hwk := h3 j u _ hu hN
  obtain ⟨x, cx, e2, _⟩ := wdl_words hwk
  rw [e2] at hcell hwk
  cases e
  exact ⟨g, x, cx, e1, hcell, hwk⟩
theorem KLm.form {base m : Nat} {v : Value} {N : List Nat} {w : World} (h : KLm base v m N w) : ∃ ao cap, v = .slice ao N.length cap := by
  obtain ⟨l, h1, h2, _⟩ := h
  obtain ⟨ao, cap, e, _⟩ := h1.open
  exact ⟨ao, cap, by rw [e, h2]⟩
theorem klm_push {base m : Nat} {v u : Value} {l : List Value} {N : List Nat} {k : Nat} {w w' : World} (h1 : OwnV base v l w) (h2 : l.length = N.length) (h3 : ∀ (j : Nat) (u : Value) (k : Nat), l[j]? = some u → N[j]? = some k → WdL m u k w) (hu : WdL m u k w) (hg : w.grownBy w' v.ownBlock) :
    (l ++ [u]).length = (N ++ [k]).length ∧ ∀ (j : Nat) (x : Value) (d : Nat), (l ++ [u])[j]? = some x → (N ++ [k])[j]? = some d → WdL m x d w' := by
  have keep : ∀ {x : Value} {d : Nat}, WdL m x d w → WdL m x d w' := fun {x d} hx => by
    obtain ⟨c, a1, a2⟩ := hx
    exact ⟨c, a1.kept hg (a1.apart h1), a2⟩
  refine ⟨by rw [List.length_append, List.length_append, h2]; rfl, fun j x d hx hd => ?_⟩
  by_cases e : j < l.length
  · rw [List.getElem?_append_left e] at hx
    rw [List.getElem?_append_left (by omega)] at hd
    exact keep (h3 j x d hx hd)
  · have e2 : j = l.length := by
      have := (List.getElem?_eq_some_iff.1 hx).1
      rw [List.length_append] at this
      have : j < l.length + 1 := this
      omega
    rw [e2, List.getElem?_append_right (Nat.le_refl _), Nat.sub_self] at hx
    rw [e2, h2, List.getElem?_append_right (Nat.le_refl _), Nat.sub_self] at hd
    cases hx
    cases hd
    exact keep hu
end Go.Proofs.YtpgaakjldlcejaaDoor

/- Golay: blocks as lists of places, and their keys. -/
namespace Go.Proofs.YtpgaakjldlcejaaDoor
open Go.RowKit Go.Sort

/-- The places at which something holds. -/
def pLs (p : Nat → Bool) (n : Nat) : List Nat := (List.range n).filter p
theorem pLs_len (p : Nat → Bool) : ∀ n, (pLs p n).length = ct p n
  | 0 => rfl
  | n + 1 => by
    unfold pLs
    rw [List.range_succ, List.filter_append, List.length_append]
    have h := pLs_len p n
    unfold pLs at h
    rw [h]
    show ct p n + ([n].filter p).length = ct p n + if p n = true then 1 else 0
    by_cases c : p n = true
    · rw [if_pos c, List.filter_cons_of_pos c]; rfl
    · rw [if_neg c, List.filter_cons_of_neg c]; rfl
theorem pLs_lt {p : Nat → Bool} {n : Nat} : ∀ x ∈ pLs p n, x < n := fun _ hx => List.mem_range.1 (List.mem_filter.1 hx).1
/-- A list's key. -/
def kyP (P : List Nat) : Nat := dnum 64 (fun j => P.getD j 0) P.length
theorem pzl_wz (P : List Nat) : pzl P = wz P.length fun j => P.getD j 0 := by
  unfold pzl wz zl
  apply List.ext_getElem?
  intro i
  by_cases hi : i < P.length
  · rw [List.getElem?_map, List.getElem?_eq_getElem hi, List.getElem?_map, List.getElem?_range hi]
    show some ((P[i] : Nat) : Int) = some ((P.getD i 0 : Nat) : Int)
    rw [List.getD_eq_getElem?_getD, List.getElem?_eq_getElem hi]; rfl
  · rw [List.getElem?_eq_none (by simp; omega), List.getElem?_eq_none (by simp; omega)]
theorem wdl_of {base m : Nat} {u : Value} {P : List Nat} {w : World} (ho : OwnI base u (pzl P) w) (hm : P.length = m) (hP : ∀ x ∈ P, x < 64) : WdL m u (kyP P) w := by
  refine ⟨fun j => P.getD j 0, ?_, fun j => ?_, by rw [← hm]; rfl⟩
  · rw [← hm, ← pzl_wz]; exact ho.mono (Nat.zero_le _)
  · by_cases hj : j < P.length
    · show P.getD _ 0 < 64
      rw [List.getD_eq_getElem?_getD, List.getElem?_eq_getElem hj]
      exact hP _ (List.getElem_mem _)
    · show P.getD _ 0 < 64
      rw [List.getD_eq_getElem?_getD, List.getElem?_eq_none (by omega)]
      show 0 < 64
      omega
/-- Where a word is not 0. -/
def wnz (D : FD) (R : Nat → Nat → Nat) (k r : Nat) : Nat → Bool := fun i => !decide (((wdr D R k r i : Nat) : Int) = 0)
theorem wnz_len (D : FD) (R : Nat → Nat → Nat) (n k r : Nat) : (pLs (wnz D R k r) n).length = wgr D R n k r := pLs_len _ n
theorem KLm.rows {base m : Nat} {v : Value} {N : List Nat} {w : World} (h : KLm base v m N w) (h1 : 1 ≤ N.length) : ∃ G cap vs, v = .slice (some ⟨G, 0, none⟩) N.length cap ∧ OwnV base (.slice (some ⟨G, 0, none⟩) N.length cap) (vl N.length vs) w ∧ ∀ i, i < N.length → WdL m (vs i) (N.getD i 0) w := by
  obtain ⟨l, ho, hln, hels⟩ := h
  obtain ⟨ao, cap, e, _, _, _, hc⟩ := ho.open
  obtain ⟨u, hu⟩ : ∃ u, l[0]? = some u := ⟨_, List.getElem?_eq_getElem (by omega)⟩
  obtain ⟨G, e1, _⟩ := hc 0 u hu
  have hvl : vl N.length (fun i => l.getD i (.slice none 0 0)) = l := by
    apply List.ext_getElem?
    intro i
    by_cases hi : i < N.length
    · rw [vl_get _ _ i hi, List.getD_eq_getElem?_getD, List.getElem?_eq_getElem (by omega)]; rfl
    · rw [List.getElem?_eq_none (by rw [vl_len]; omega), List.getElem?_eq_none (by omega)]
  rw [e1, hln] at e
  subst e
  refine ⟨G, cap, fun i => l.getD i (.slice none 0 0), rfl, by rw [hvl]; exact ho, fun i hi => ?_⟩
  have hLi : N[i]? = some (N.getD i 0) := by rw [List.getD_eq_getElem?_getD, List.getElem?_eq_getElem hi]; rfl
  have hli : l[i]? = some (l.getD i (.slice none 0 0)) := by rw [List.getD_eq_getElem?_getD, List.getElem?_eq_getElem (by omega)]; rfl
  exact hels i _ _ hli hLi
end Go.Proofs.YtpgaakjldlcejaaDoor

/- Golay: the reference's Sort of lists of places. -/
namespace Go.Proofs.YtpgaakjldlcejaaDoor
open Go.RowKit Go.Sort

theorem getD_range (L : List Nat) : (List.range L.length).map (fun i => L.getD i 0) = L := by
  apply List.ext_getElem?
  intro i
  by_cases hi : i < L.length
  · rw [List.getElem?_map, List.getElem?_range hi, List.getElem?_eq_getElem hi]
    show some (L.getD i 0) = _
    rw [List.getD_eq_getElem?_getD, List.getElem?_eq_getElem hi]; rfl
  · rw [List.getElem?_eq_none (by simp; omega), List.getElem?_eq_none (by omega)]
end Go.Proofs.YtpgaakjldlcejaaDoor

/- Golay: the reference's Blocks. -/
namespace Go.Proofs.YtpgaakjldlcejaaDoor
open Go.Shelf Go.RowKit Go.Lib Go.Sort

end Go.Proofs.YtpgaakjldlcejaaDoor
