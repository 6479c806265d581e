/- Texts of ours, one behind the other: KV3 KV4. -/
import Derived.Test.YtlljaliemldjkaaZKV1
/- Trellises: the reference's Memory and Signs. -/
namespace Go.Proofs.Ytlljaliemldjkaa
open Go.RowKit Go.Sort

theorem shr_mod (v j : Nat) : ((v : Int) / 2 ^ j).tmod 2 = ((v / 2 ^ j % 2 : Nat) : Int) := by
  have e : (v : Int) / 2 ^ j = ((v / 2 ^ j : Nat) : Int) := by rw [Int.natCast_ediv, Int.natCast_pow]; rfl
  rw [e]
  generalize v / 2 ^ j = q
  rw [Int.tmod_eq_emod_of_nonneg (by omega)]
  omega
set_option maxHeartbeats 8000000 in
set_option maxRecDepth 100000 in
theorem rmemory_any {ao : Option Addr} {R ca : Nat} {z : Nat → Nat} {w : World} (hX : RlZ ao R z w) :
    Calls Try.prog 25 #[.slice ao R ca] w fun e w' => e = .returned (.int .i64 (mmr z R : Nat)) ∧ w' = w := by
  have HX : Hid (RlZ ao R z w) := hX
  have hR3 := hX.few
  clear hX
  go_enter Try.func25, Try.ntmps25
  go_wp2
  go_loopw [3, 4] (fun vm vi wr => ∃ i m : Nat, vm = .int .i64 (m : Nat) ∧ vi = .int .i64 (i : Nat) ∧ i ≤ R ∧ m < 5 ∧ Hid (m = mmr z i ∧ wr = w)) (fun _ vi _ => R - (intOf vi).toNat)
  case atStart => exact ⟨0, 0, rfl, rfl, by omega, by omega, rfl, rfl⟩
  case round =>
    obtain ⟨i, m, rfl, rfl, hi, hm, HI⟩ := hrel
    have hw := HI.out.2.symm
    subst hw
    by_cases hlt : i < R
    · have hib : (i : Int) < (R : Int) := by omega
      have hib0 : (0 : Int) ≤ (i : Int) := by omega
      obtain ⟨b, off, e1, hcell⟩ := HX.out.sl i hlt
      subst e1
      obtain ⟨v, hv⟩ : ∃ v, v = z i := ⟨_, rfl⟩
      replace hcell : w.cell? ⟨b, off + i, none⟩ = some (.int .i64 (v : Nat)) := by rw [hv]; exact hcell
      have hvb : v ≤ 31 := by rw [hv]; exact HX.out.hi i hlt
      have HV : Hid (v = z i) := hv
      clear hv
      go_wp2
      go_loopw [3, 5] (fun vm vj wr => ∃ j c : Nat, vm = .int .i64 (c : Nat) ∧ vj = .int .i64 (j : Nat) ∧ j ≤ 5 ∧ c < 5 ∧ Hid (c = mst v m j ∧ wr = w)) (fun _ vj _ => 5 - (intOf vj).toNat)
      case atStart => exact ⟨0, m, rfl, rfl, by omega, hm, (mst_zero v m).symm, rfl⟩
      case round =>
        obtain ⟨j, c, rfl, rfl, hj, hc, HJ⟩ := hrel
        have hw := HJ.out.2.symm
        subst hw
        by_cases hjl : j < 5
        · have hjb : (j : Int) < 5 := by omega
          have hjb0 : (0 : Int) ≤ (j : Int) := by omega
          have HN : Hid (mst v m (j + 1) = if v / 2 ^ j % 2 = 1 ∧ c < j then j else c) := by
            show mst v m (j + 1) = _
            rw [mst_next (by omega) hm hjl, ← HJ.out.1]
          by_cases h1 : v / 2 ^ j % 2 = 1
          · have ht : ((v : Int) / 2 ^ j).tmod 2 = 1 := by rw [shr_mod, h1]; rfl
            by_cases h2 : c < j
            · have HN2 : Hid (j = mst v m (j + 1)) := by show j = _; rw [HN.out, if_pos ⟨h1, h2⟩]
              have h2i : (c : Int) < (j : Int) := by omega
              clear h1 HN
              go_wp2
              go_roundw
              case rel => exact ⟨j + 1, j, rfl, by go_num, by omega, by omega, HN2.out, by first | rfl | trivial⟩
              case measure => simp [intOf]; omega
            · have HN2 : Hid (c = mst v m (j + 1)) := by show c = _; rw [HN.out, if_neg (fun q => h2 q.2)]
              have h2i : ¬ (c : Int) < (j : Int) := by omega
              clear h1 HN
              go_wp2
              go_roundw
              case rel => exact ⟨j + 1, c, rfl, by go_num, by omega, by omega, HN2.out, by first | rfl | trivial⟩
              case measure => simp [intOf]; omega
          · have ht : ¬ ((v : Int) / 2 ^ j).tmod 2 = 1 := by rw [shr_mod]; omega
            have HN2 : Hid (c = mst v m (j + 1)) := by show c = _; rw [HN.out, if_neg (fun q => h1 q.1)]
            clear h1 HN
            go_wp2
            go_roundw
            case rel => exact ⟨j + 1, c, rfl, by go_num, by omega, by omega, HN2.out, by first | rfl | trivial⟩
            case measure => simp [intOf]; omega
        · have hjb : ¬ (j : Int) < 5 := by omega
          have hje : j = 5 := by omega
          have HN : Hid (c = mmr z (i + 1)) := by
            have hz := HX.out.hi i hlt
            show c = mbl (orz z i ||| z i) - 1
            rw [HJ.out.1, hje, mst_five (by omega), HI.out.1, mbl_or (HX.out.orz i (by omega)) (by omega), ← HV.out]; rfl
          clear hje
          go_wp2
          go_roundw
          case rel => exact ⟨i + 1, c, rfl, by go_num, by omega, by omega, HN.out, by first | rfl | trivial⟩
          case measure => simp [intOf]; omega
    · have hib : ¬ (i : Int) < (R : Int) := by omega
      have hie : i = R := by omega
      subst hie
      go_wp2
      go_ret
      exact ⟨by rw [← HI.out.1]; rfl, rfl⟩
end Go.Proofs.Ytlljaliemldjkaa

/- Trellises: the reference's Signs. -/
namespace Go.Proofs.Ytlljaliemldjkaa
open Go.RowKit Go.Sort

/-- Rules that lie somewhere. -/
structure RlA (ao : Option Addr) (R : Nat) (z : Nat → Nat) (w : World) : Prop where
  rz : RlZ ao R z w
  lt : LtB ao w.heap.size
theorem RlA.below {ao : Option Addr} {R : Nat} {z : Nat → Nat} {w w' : World} (h : RlA ao R z w) (hb : Below w.heap.size w w') : RlA ao R z w' :=
  ⟨⟨h.rz.sl.below hb h.lt, h.rz.one, h.rz.few, h.rz.lo, h.rz.hi⟩, h.lt.mono hb.size⟩
/-- Bits that lie somewhere. -/
structure BtA (bo : Option Addr) (n : Nat) (m : Nat → Nat) (w : World) : Prop where
  sl : SlZ bo n (fun i => ((m i : Nat) : Int)) w
  lt : LtB bo w.heap.size
  bit : ∀ i, i < n → m i ≤ 1
theorem BtA.below {bo : Option Addr} {n : Nat} {m : Nat → Nat} {w w' : World} (h : BtA bo n m w) (hb : Below w.heap.size w w') : BtA bo n m w' :=
  ⟨h.sl.below hb h.lt, h.lt.mono hb.size, h.bit⟩
/-- The signs of a message. -/
def sgL (z : Nat → Nat) (R : Nat) (m : Nat → Nat) (n k : Nat) : List Int := zl k fun i => ((sgn' z R m n i : Nat) : Int)
theorem sgL_next {z : Nat → Nat} {R : Nat} {m : Nat → Nat} {n i k : Nat} (hk : k < R) : sgL z R m n (R * i + (k + 1)) = sgL z R m n (R * i + k) ++ [((sgb (z k) (snm m n (i + 1)) : Nat) : Int)] := by
  unfold sgL zl
  rw [← Nat.add_assoc, List.range_succ, List.map_append]
  show _ ++ [((sgn' z R m n (R * i + k) : Nat) : Int)] = _
  unfold sgn'
  rw [Nat.mul_add_mod, Nat.mod_eq_of_lt hk, Nat.mul_add_div (by omega), Nat.div_eq_of_lt hk, Nat.add_zero]
theorem sgL_len (z : Nat → Nat) (R : Nat) (m : Nat → Nat) (n k : Nat) : (sgL z R m n k).length = k := by unfold sgL zl; rw [List.length_map, List.length_range]

theorem wrap_neg {d : Int} (h1 : -1000 ≤ d) (h2 : d ≤ 1000) : IntKind.i64.wrap d = d := by
  rw [IntWalk.i64_left]; exact IntWalk.wrap64_in d ⟨by omega, by omega⟩
set_option maxHeartbeats 16000000 in
set_option maxRecDepth 100000 in
theorem rsigns_any {ao bo : Option Addr} {R ca n cb : Nat} {z m : Nat → Nat} {w : World} (hX : RlA ao R z w) (hM : BtA bo n m w) (hn : n ≤ 20) :
    Calls Try.prog 8 #[.slice ao R ca, .slice bo n cb] w fun e w' => ∃ v, e = .returned v ∧ OwnI w.heap.size v (sgL z R m n (R * (n + mmr z R))) w' ∧ Below w.heap.size w w' := by
  have HX : Hid (RlA ao R z w ∧ BtA bo n m w) := ⟨hX, hM⟩
  have hR3 := hX.rz.few
  obtain ⟨M, hMe⟩ : ∃ M, M = mmr z R := ⟨_, rfl⟩
  have hM4 : M ≤ 4 := by rw [hMe]; exact mmr_le z R
  have HMm : Hid (∀ wx, Below w.heap.size w wx → Calls Try.prog 25 #[.slice ao R ca] wx fun e w' => e = .returned (.int .i64 (M : Nat)) ∧ w' = wx) := fun wx hb => by rw [hMe]; exact rmemory_any (HX.out.1.below hb).rz
  rw [← hMe]
  obtain ⟨T, hT⟩ : ∃ T, T = n + M := ⟨_, rfl⟩
  have hTw : IntKind.i64.wrap ((n : Int) + (M : Int)) = (T : Int) := wrap_to (by omega) (by omega)
  have hT24 : T ≤ 24 := by omega
  rw [← hT]
  clear hX hM hMe hT
  go_enter Try.func8, Try.ntmps8
  go_wp2
  go_loopw [5, 6] (fun vl vi wr => ∃ i : Nat, vi = .int .i64 (i : Nat) ∧ i ≤ T ∧ Hid (OwnI w.heap.size vl (sgL z R m n (R * i)) wr ∧ Below w.heap.size w wr)) (fun _ vi _ => T - (intOf vi).toNat)
  case atStart => exact ⟨0, rfl, by omega, OwnI.nil _ _, Below.refl _ _⟩
  case round =>
    obtain ⟨i, rfl, hi, HI⟩ := hrel
    rename World => wr
    by_cases hlt : i < T
    · have hib : (i : Int) < (T : Int) := by omega
      go_wp2_with fail
      refine (HMm.out wr HI.out.2).mono ?_
      rintro e w1 ⟨rfl, hw⟩
      have hw := hw.symm
      subst hw
      go_wp2
      go_loopw [5, 7] (fun vl vk wx => ∃ k : Nat, vk = .int .i64 (k : Nat) ∧ k ≤ R ∧ Hid (OwnI w.heap.size vl (sgL z R m n (R * i + k)) wx ∧ Below w.heap.size w wx)) (fun _ vk _ => R - (intOf vk).toNat)
      case atStart => exact ⟨0, rfl, by omega, HI.out.1, HI.out.2⟩
      case round =>
        obtain ⟨k, rfl, hk, HK⟩ := hrel
        rename World => wx
        by_cases hkl : k < R
        · have hkb : (k : Int) < (R : Int) := by omega
          have hkb0 : (0 : Int) ≤ (k : Int) := by omega
          have hRx := HX.out.1.below HK.out.2
          have hMx := HX.out.2.below HK.out.2
          obtain ⟨b, off, e1, hcell⟩ := hRx.rz.sl k hkl
          obtain ⟨v, hv⟩ : ∃ v, v = z k := ⟨_, rfl⟩
          replace hcell : wx.cell? ⟨b, off + k, none⟩ = some (.int .i64 (v : Nat)) := by rw [hv]; exact hcell
          have hvb : v ≤ 31 := by rw [hv]; exact hRx.rz.hi k hkl
          have HV : Hid (v = z k ∧ BtA bo n m wx) := ⟨hv, hMx⟩
          subst e1
          clear hv hRx hMx
          go_wp2
          go_loopw [8, 9] (fun vs vj wy => ∃ j s : Nat, vs = .int .i64 (s : Nat) ∧ vj = .int .i64 (j : Nat) ∧ j ≤ 5 ∧ s ≤ 5 ∧ Hid (s = ssj v m n i j ∧ wy = wx)) (fun _ vj _ => 5 - (intOf vj).toNat)
          case atStart => exact ⟨0, 0, rfl, rfl, by omega, by omega, rfl, rfl⟩
          case round =>
            obtain ⟨j, s, rfl, rfl, hj, hs, HJ⟩ := hrel
            have hw := HJ.out.2.symm
            subst hw
            by_cases hjl : j < 5
            · have hjb : (j : Int) < 5 := by omega
              have HNx : Hid (ssj v m n i (j + 1) = s + (if v / 2 ^ j % 2 = 1 ∧ j ≤ i ∧ i - j < n then m (i - j) else 0)) := by
                show ssj v m n i j + _ = _
                rw [← HJ.out.1]
              have hle5 := ssj_le (r := v) (m := m) (n := n) (i := i) HV.out.2.bit (j + 1)
              by_cases h1 : v / 2 ^ j % 2 = 1
              · have ht : ((v : Int) / 2 ^ j).tmod 2 = 1 := by rw [shr_mod, h1]; rfl
                by_cases h2 : j ≤ i
                · obtain ⟨d, hd⟩ : ∃ d, d = i - j := ⟨_, rfl⟩
                  have hij : (i : Int) - (j : Int) = (d : Int) := by omega
                  have hdw : IntKind.i64.wrap (d : Int) = (d : Int) := wrap_to (by omega) (by omega)
                  have hd0 : (0 : Int) ≤ (d : Int) := by omega
                  by_cases h3 : d < n
                  · have hd3 : (d : Int) < (n : Int) := by omega
                    obtain ⟨b2, off2, e2, hc2⟩ := HV.out.2.sl d h3
                    subst e2
                    obtain ⟨y, hy⟩ : ∃ y, y = m d := ⟨_, rfl⟩
                    replace hc2 : wx.cell? ⟨b2, off2 + d, none⟩ = some (.int .i64 (y : Nat)) := by rw [hy]; exact hc2
                    have hy1 : y ≤ 1 := by rw [hy]; exact HV.out.2.bit d h3
                    obtain ⟨s1, hs1⟩ : ∃ s1, s1 = s + y := ⟨_, rfl⟩
                    have hsw : IntKind.i64.wrap ((s : Int) + (y : Int)) = (s1 : Int) := wrap_to (by omega) (by omega)
                    have HN2 : Hid (s1 = ssj v m n i (j + 1)) := by show s1 = _; rw [HNx.out, if_pos ⟨h1, h2, by omega⟩, hs1, hy, hd]
                    have hs15 : s1 ≤ 5 := by rw [HN2.out]; omega
                    clear h1 h2 hd hy hs1 HNx hle5
                    go_wp2
                    go_roundw
                    case rel => exact ⟨j + 1, s1, rfl, by go_num, by omega, hs15, HN2.out, by first | rfl | trivial⟩
                    case measure => simp [intOf]; omega
                  · have hd3 : ¬ (d : Int) < (n : Int) := by omega
                    have HN2 : Hid (s = ssj v m n i (j + 1)) := by show s = _; rw [HNx.out, if_neg (fun q => h3 (by omega)), Nat.add_zero]
                    clear h1 h2 hd HNx hle5
                    go_wp2
                    go_roundw
                    case rel => exact ⟨j + 1, s, rfl, by go_num, by omega, hs, HN2.out, by first | rfl | trivial⟩
                    case measure => simp [intOf]; omega
                · obtain ⟨d, hd⟩ : ∃ d : Int, d = (i : Int) - (j : Int) := ⟨_, rfl⟩
                  have hij : (i : Int) - (j : Int) = d := hd.symm
                  have hdw : IntKind.i64.wrap d = d := by
                    rw [hd]; exact wrap_neg (by omega) (by omega)
                  have hd0 : ¬ (0 : Int) ≤ d := by omega
                  have HN2 : Hid (s = ssj v m n i (j + 1)) := by show s = _; rw [HNx.out, if_neg (fun q => h2 q.2.1), Nat.add_zero]
                  clear h1 h2 hd HNx hle5
                  go_wp2
                  go_roundw
                  case rel => exact ⟨j + 1, s, rfl, by go_num, by omega, hs, HN2.out, by first | rfl | trivial⟩
                  case measure => simp [intOf]; omega
              · have ht : ¬ ((v : Int) / 2 ^ j).tmod 2 = 1 := by rw [shr_mod]; omega
                have HN2 : Hid (s = ssj v m n i (j + 1)) := by show s = _; rw [HNx.out, if_neg (fun q => h1 q.1), Nat.add_zero]
                clear h1 HNx hle5
                go_wp2
                go_roundw
                case rel => exact ⟨j + 1, s, rfl, by go_num, by omega, hs, HN2.out, by first | rfl | trivial⟩
                case measure => simp [intOf]; omega
            · have hjb : ¬ (j : Int) < 5 := by omega
              have hje : j = 5 := by omega
              obtain ⟨t, ht⟩ : ∃ t, t = s % 2 := ⟨_, rfl⟩
              have htm : (s : Int).tmod 2 = (t : Int) := by rw [ht, Int.tmod_eq_emod_of_nonneg (by omega)]; omega
              have HN : Hid (sgL z R m n (R * i + (k + 1)) = sgL z R m n (R * i + k) ++ [((t : Nat) : Int)]) := by
                rw [sgL_next hkl, ← HV.out.1, ← ssj_is HV.out.2.bit, ← hje, ← HJ.out.1, ht]; exact rfl
              have hll : (sgL z R m n (R * i + k)).length ≤ 1000000 := by
                rw [sgL_len]
                have : R * i ≤ 3 * 24 := Nat.mul_le_mul hR3 (by omega)
                omega
              have hsz := HK.out.2.size
              clear hje ht
              go_wp2_with (at_builtin; refine append_int rfl _ _ rfl w.heap.size _ (sgL z R m n (R * i + k)) rfl (HK.out.1.alloc _) ⟨_, 0, none⟩ 1 (t : Nat) rfl (by simp) hll (by simp; omega) ?_; intro v2 w3 hown3 hgrow3)
              have HN3 : Hid (OwnI w.heap.size v2 (sgL z R m n (R * i + (k + 1))) w3 ∧ Below w.heap.size w w3) := ⟨by rw [HN.out]; exact hown3, (HK.out.2.alloc hsz _).grown hgrow3 (by simp; omega) (fun q hq => (HK.out.1.lt q hq).1)⟩
              clear hown3 hgrow3
              try go_wp2
              go_roundw
              case rel => exact ⟨k + 1, by go_num, by omega, HN3.out⟩
              case measure => simp [intOf]; omega
        · have hkb : ¬ (k : Int) < (R : Int) := by omega
          have hke : R = k := by omega
          have HN : Hid (sgL z R m n (R * i + k) = sgL z R m n (R * (i + 1))) := by show sgL _ _ _ _ _ = _; rw [Nat.mul_add, Nat.mul_one, hke]
          clear hke
          go_wp2
          go_roundw
          case rel => exact ⟨i + 1, by go_num, by omega, by rw [← HN.out]; exact HK.out.1, HK.out.2⟩
          case measure => simp [intOf]; omega
    · have hib : ¬ (i : Int) < (T : Int) := by omega
      have hie : i = T := by omega
      subst hie
      go_wp2_with fail
      refine (HMm.out wr HI.out.2).mono ?_
      rintro e w1 ⟨rfl, hw⟩
      have hw := hw.symm
      subst hw
      go_wp2
      go_ret
      exact ⟨_, rfl, HI.out⟩
end Go.Proofs.Ytlljaliemldjkaa
