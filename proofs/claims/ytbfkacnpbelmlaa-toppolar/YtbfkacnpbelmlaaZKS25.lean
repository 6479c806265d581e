/- Texts of ours, one behind the other: KS25 KS26 KS27 KS28 KS29 KS30 KS31 KS32a KS32b KS32c KS33 KS34. -/
import Derived.Test.YtbfkacnpbelmlaaZKS24
import Derived.Test.YtbfkacnpbelmlaaZKS4
import Derived.Test.YtbfkacnpbelmlaaZR5
import Derived.Test.YtbfkacnpbelmlaaZW13
import Derived.BigQuiet
import Derived.Test.YtbfkacnpbelmlaaZKS16
import Derived.Test.YtbfkacnpbelmlaaZKE4
import Derived.Test.YtbfkacnpbelmlaaZR14
import Derived.Test.YtbfkacnpbelmlaaZKS13
import Derived.Test.YtbfkacnpbelmlaaZL1
import Derived.Test.YtbfkacnpbelmlaaZKE21
import Derived.Test.YtbfkacnpbelmlaaZL10
/- Polar: the reference's PolarRead, of one number. -/
namespace Go.Proofs.Ytbfkacnpbelmlaa
open Go.RowKit Go.Sort

theorem rp_slI {ao : Option Addr} {n cap : Nat} {z : Nat → Int} {w : World} (h : SlZ ao n z w) (hn : n ≤ 1000000) : SliceI (.slice ao n cap) (zl n z) w := by
  by_cases h0 : n = 0
  · subst h0
    exact Or.inl ⟨rfl, ao, cap, rfl⟩
  · obtain ⟨b, off, rfl, _⟩ := h 0 (by omega)
    refine Or.inr ⟨fun e => ?_, by rw [zl_len]; exact hn, b, off, cap, by rw [zl_len], fun j hj => ?_⟩
    · have := congrArg List.length e
      rw [zl_len] at this
      exact h0 this
    · rw [zl_len] at hj
      obtain ⟨b', off', e, hc⟩ := h j hj
      cases e
      rw [zl_getD n z j hj]; exact hc
end Go.Proofs.Ytbfkacnpbelmlaa

/- Polar: the reference's PolarRead, a step of its recursion (printed by make/ks26.py). -/
namespace Go.Proofs.Ytbfkacnpbelmlaa
open Go.RowKit Go.Sort

theorem slz_bel {fo : Option Addr} {k : Nat} {p : Nat → Int} {w w' : World} (h : SlZ fo k p w ∧ LtB fo w.heap.size) (hb : Below w.heap.size w w') : SlZ fo k p w' ∧ LtB fo w'.heap.size := by
  refine ⟨fun i hi => ?_, fun a e => Nat.lt_of_lt_of_le (h.2 a e) hb.size⟩
  obtain ⟨b, off, e, q⟩ := h.1 i hi
  exact ⟨b, off, e, (hb.cell (p := ⟨b, off + i, none⟩) (show b < w.heap.size from h.2 _ e)).trans q⟩
theorem Prt.bel {b off n : Nat} {x : Nat → Int} {w w' : World} (h : Prt b off n x w) (hb : Below w.heap.size w w') : Prt b off n x w' := h.same (hb.block b h.1) hb.size
end Go.Proofs.Ytbfkacnpbelmlaa

/- Polar: bit.All; the reference's PolarMay and PolarWord. -/
namespace Go.Proofs.Ytbfkacnpbelmlaa
open Go.RowKit Go.Sort

set_option maxHeartbeats 2000000 in
theorem bAll_any {ao : Option Addr} {n cap : Nat} {z : Nat → Int} {w : World} (hs : SlZ ao n z w) (hn : n ≤ 1000000) :
    Calls Try.prog 34 #[.slice ao n cap] w fun e w' => e = .returned (.bool (allP isbt z n)) ∧ w' = w := by
  have HC : Hid (Calls Try.prog 47 #[.slice ao n cap, .func (.func 45) #[] #[]] w fun e w' => e = .returned (.bool (allP isbt z n)) ∧ w' = w) := ball_any enters_isbit hs hn (fun x => isBit_any x w)
  obtain ⟨R, hR⟩ : ∃ R, R = allP isbt z n := ⟨_, rfl⟩
  rw [← hR] at HC ⊢
  clear hR hs
  go_enter Try.func34, Try.ntmps34
  go_wp2_with fail
  refine HC.out.mono ?_
  rintro e w' ⟨rfl, hw⟩
  have hw := hw.symm
  subst hw
  go_wp2
  go_ret
  exact ⟨rfl, rfl⟩
end Go.Proofs.Ytbfkacnpbelmlaa

/- Polar: the reference's PolarWord. -/
namespace Go.Proofs.Ytbfkacnpbelmlaa
open Go.RowKit Go.Sort

end Go.Proofs.Ytbfkacnpbelmlaa

/- Polar: the law's polarReads. -/
namespace Go.Proofs.Ytbfkacnpbelmlaa
open Go.RowKit Go.Sort

/-- The i-th of the best places. -/
def bpl (m k i : Nat) : Nat := (bsl m k).getD i 0
theorem zl_nats (L : List Nat) (a : Nat → Int) : zl L.length (fun i => a (L.getD i 0)) = L.map a := by
  have h := list_zl (L.map a)
  rw [List.length_map] at h
  rw [h]
  refine zl_congr (fun i hi => ?_)
  rw [List.getD_eq_getElem?_getD, List.getD_eq_getElem?_getD, List.getElem?_map, List.getElem?_eq_getElem hi]
  rfl
theorem bsl_len {m k : Nat} (hm : m ≤ 5) (hk : k ≤ 2 ^ m) : (bsl m k).length = k := by
  unfold bsl
  rw [(flt_perm hm hk).length_eq, srt_len]
theorem flt_bpl {m k : Nat} (hm : m ≤ 5) (hk : k ≤ 2 ^ m) : flt (srt m k) (2 ^ m) = zl k (fun i => ((bpl m k i : Nat) : Int)) := by
  have h := zl_nats (bsl m k) (fun j => ((j : Nat) : Int))
  rw [bsl_len hm hk] at h
  exact h.symm
theorem bpl_lt {m k : Nat} (hm : m ≤ 5) (hk : k ≤ 2 ^ m) (i : Nat) (hi : i < k) : bpl m k i < 2 ^ m := by
  have hl := bsl_len hm hk
  have : bpl m k i ∈ bsl m k := by
    unfold bpl
    rw [List.getD_eq_getElem?_getD, List.getElem?_eq_getElem (by omega)]
    exact List.getElem_mem _
  exact List.mem_range.1 (List.mem_filter.1 this).1
theorem bpl_msl {m k : Nat} (hm : m ≤ 5) (hk : k ≤ 2 ^ m) (a : Nat → Int) : zl k (fun i => a (bpl m k i)) = msl (fun j => decide ((j : Int) ∈ zl k fun i => ((bpl m k i : Nat) : Int))) a 0 (2 ^ m) := by
  have h := zl_nats (bsl m k) a
  rw [bsl_len hm hk] at h
  rw [msl_is]
  refine Eq.trans h ?_
  congr 1
  unfold bsl
  refine List.filter_congr (fun j hj => ?_)
  rw [← flt_bpl hm hk]
  unfold flt
  by_cases c : (srt m k).contains j = true
  · rw [c, decide_eq_true]
    exact List.mem_map.2 ⟨j, List.mem_filter.2 ⟨hj, c⟩, rfl⟩
  · rw [Bool.not_eq_true] at c
    rw [c, decide_eq_false]
    intro hh
    obtain ⟨i, hi, e⟩ := List.mem_map.1 hh
    have e : i = j := by omega
    subst e
    rw [(List.mem_filter.1 hi).2] at c
    cases c

end Go.Proofs.Ytbfkacnpbelmlaa

/- Polar: the law's polarReads where all may be. -/
namespace Go.Proofs.Ytbfkacnpbelmlaa
open Go.RowKit Go.Sort

end Go.Proofs.Ytbfkacnpbelmlaa

/- Polar: the walks of PolarSays (printed by make/ks31.py). -/
namespace Go.Proofs.Ytbfkacnpbelmlaa
open Go.RowKit Go.Sort

/-- A list of numbers where it lies. -/
def SL (fo : Option Addr) (k : Nat) (p : Nat → Int) (w : World) : Prop := SlZ fo k p w ∧ LtB fo w.heap.size
theorem SL.below {fo : Option Addr} {k : Nat} {p : Nat → Int} {w w' : World} (h : SL fo k p w) (hb : Below w.heap.size w w') : SL fo k p w' := slz_bel h hb
theorem SL.sl {fo : Option Addr} {k c : Nat} {p : Nat → Int} {w : World} (h : SL fo k p w) (hk : k ≤ 100) : SliceI (.slice fo k c) (zl k p) w := rp_slI h.1 (by omega)
end Go.Proofs.Ytbfkacnpbelmlaa

/- Polar: more walks of PolarSays (printed by make/ks31.py). -/
namespace Go.Proofs.Ytbfkacnpbelmlaa
open Go.RowKit Go.Sort

end Go.Proofs.Ytbfkacnpbelmlaa

/- Polar: more walks of PolarSays (printed by make/ks31.py). -/
namespace Go.Proofs.Ytbfkacnpbelmlaa
open Go.RowKit Go.Sort

end Go.Proofs.Ytbfkacnpbelmlaa

/- Polar: more walks of PolarSays (printed by make/ks31.py). -/
namespace Go.Proofs.Ytbfkacnpbelmlaa
open Go.RowKit Go.Sort

end Go.Proofs.Ytbfkacnpbelmlaa

/- Polar: what PolarSays' calls answer; the whole walk of PolarSays. -/
namespace Go.Proofs.Ytbfkacnpbelmlaa
open Go.RowKit Go.Sort

theorem pow32 {m N : Nat} (hm : m ≤ 5) (hN : N = 2 ^ m) : N ≤ 32 ∧ 1 ≤ N := by
  rw [hN]
  exact ⟨Nat.le_trans (Nat.pow_le_pow_right (by omega) hm) (by decide), Nat.pow_pos (by omega)⟩
theorem best_zl {m N k : Nat} (hm : m ≤ 5) (hN : N = 2 ^ m) (hk : k ≤ N) (w : World) : Calls Try.prog 9 #[.int .i64 (m : Nat), .int .i64 (k : Nat)] w fun e w' => ∃ v, e = .returned (.tuple #[v, .int .i64 0]) ∧ OwnI w.heap.size v (zl k fun i => ((bpl m k i : Nat) : Int)) w' ∧ Below w.heap.size w w' := by
  rw [hN] at hk
  have h := best_ok hm hk w
  rw [flt_bpl hm hk] at h
  exact h
end Go.Proofs.Ytbfkacnpbelmlaa

/- Polar: the walk of PolarMade. -/
namespace Go.Proofs.Ytbfkacnpbelmlaa
open Go.RowKit Go.Sort

theorem pk_any {c : Int} (hc : I64 c) {n : Nat} (h0 : 0 < n) (hn : n ≤ 1000) : ∃ x : Nat, x < n ∧ ∀ w : World, Calls Try.prog 18 #[.int .i64 c, .int .i64 (n : Nat)] w fun e w' => e = .returned (.int .i64 (x : Nat)) ∧ w' = w := by
  have h1 := pick_lo c (n : Int) (by omega)
  have h2 := pick_hi c (n : Int) (by omega)
  refine ⟨(pick c (n : Int)).toNat, by omega, fun w => ?_⟩
  have h := pick_any c (n : Int) w hc.1 hc.2 (by omega) (by omega)
  rw [show (((pick c (n : Int)).toNat : Nat) : Int) = pick c (n : Int) by omega]
  exact h

end Go.Proofs.Ytbfkacnpbelmlaa
