/- Words in order: slices.Compare, slices.SortFunc of words. -/
import Derived.Test.YtillljojdnofgaaZKI17
import Derived.Test.YtillljojdnofgaaZLS1
namespace Go.Proofs.Ytillljojdnofgaa
open Go.Shelf Go.RowKit Go.Lib Go.Sort

/-- Which is greater. -/
def cmpZ (x y : Int) : Int := if x < y then -1 else if y < x then 1 else 0
set_option maxHeartbeats 2000000 in
theorem nan_any (x : Int) (w : World) : Calls Try.prog 105 #[.int .i64 x] w fun e w' => e = .returned (.bool false) ∧ w' = w := by
  have z : (x != x) = false := by simp
  go_enter Try.func105, Try.ntmps105
  go_wp2
  go_ret
  exact ⟨rfl, rfl⟩
set_option maxHeartbeats 2000000 in
theorem cmpI_any (x y : Int) (w : World) : Calls Try.prog 84 #[.int .i64 x, .int .i64 y] w fun e w' => e = .returned (.int .i64 (cmpZ x y)) ∧ w' = w := by
  obtain ⟨R, hR⟩ : ∃ R, R = cmpZ x y := ⟨_, rfl⟩
  rw [← hR]
  have HN : Hid (∀ (x : Int) (w : World), Calls Try.prog 105 #[.int .i64 x] w fun e w' => e = .returned (.bool false) ∧ w' = w) := nan_any
  by_cases h1 : x < y
  · have HR : Hid (R = -1) := by show R = -1; rw [hR]; unfold cmpZ; rw [if_pos h1]
    clear hR
    go_enter Try.func84, Try.ntmps84
    go_wp2_with (go_at_call 105; refine (HN.out _ _).mono ?_; rintro e w' ⟨rfl, hw⟩; have hw := hw.symm; subst hw)
    go_ret
    exact ⟨by rw [HR.out]; rfl, rfl⟩
  · by_cases h2 : y < x
    · have HR : Hid (R = 1) := by show R = 1; rw [hR]; unfold cmpZ; rw [if_neg h1, if_pos h2]
      clear hR
      go_enter Try.func84, Try.ntmps84
      go_wp2_with (go_at_call 105; refine (HN.out _ _).mono ?_; rintro e w' ⟨rfl, hw⟩; have hw := hw.symm; subst hw)
      go_ret
      exact ⟨by rw [HR.out]; rfl, rfl⟩
    · have HR : Hid (R = 0) := by show R = 0; rw [hR]; unfold cmpZ; rw [if_neg h1, if_neg h2]
      clear hR
      go_enter Try.func84, Try.ntmps84
      go_wp2_with (go_at_call 105; refine (HN.out _ _).mono ?_; rintro e w' ⟨rfl, hw⟩; have hw := hw.symm; subst hw)
      go_ret
      exact ⟨by rw [HR.out]; rfl, rfl⟩

set_option maxHeartbeats 4000000 in
set_option maxRecDepth 100000 in
theorem scompare_any {ao bo : Option Addr} {m ca cb : Nat} {c d : Nat → Nat} {w : World} (hX : SlZ ao m (fun j => ((c j : Nat) : Int)) w) (hY : SlZ bo m (fun j => ((d j : Nat) : Int)) w) (hm : m ≤ 13) (hc : ∀ j, c j ≤ 1) (hd : ∀ j, d j ≤ 1) :
    Calls Try.prog 58 #[.slice ao m ca, .slice bo m cb] w fun e w' => e = .returned (.int .i64 (cmpZ (dnum 2 c m : Nat) (dnum 2 d m : Nat))) ∧ w' = w := by
  obtain ⟨R, hR⟩ : ∃ R, R = cmpZ (dnum 2 c m : Nat) (dnum 2 d m : Nat) := ⟨_, rfl⟩
  have HF : Hid (SlZ ao m (fun j => ((c j : Nat) : Int)) w ∧ SlZ bo m (fun j => ((d j : Nat) : Int)) w ∧ (∀ j, c j ≤ 1) ∧ (∀ j, d j ≤ 1) ∧ R = cmpZ (dnum 2 c m : Nat) (dnum 2 d m : Nat)) := ⟨hX, hY, hc, hd, hR⟩
  have HCm : Hid (∀ (x y : Int) (w : World), Calls Try.prog 84 #[.int .i64 x, .int .i64 y] w fun e w' => e = .returned (.int .i64 (cmpZ x y)) ∧ w' = w) := cmpI_any
  rw [← hR]
  have hmm : ¬ (m : Int) < (m : Int) := by omega
  clear hX hY hc hd hR
  go_enter Try.func58, Try.ntmps58
  go_wp2
  go_loopw [11] (fun vi wr => ∃ i : Nat, i ≤ m ∧ vi = .int .i64 (i : Nat) ∧ Hid ((∀ j, j < i → c j = d j) ∧ wr = w)) (fun vi _ => m - (intOf vi).toNat)
  case atStart => exact ⟨0, by omega, rfl, fun j hj => absurd hj (by omega), rfl⟩
  case round =>
    obtain ⟨i, hi, rfl, HG⟩ := hrel
    rename World => wr
    by_cases hlt : i < m
    · have hib : (i : Int) < (m : Int) := by omega
      have hib0 : (0 : Int) ≤ (i : Int) := by omega
      have hge : ¬ (m : Int) ≤ (i : Int) := by omega
      obtain ⟨ba, oa, hao, hca⟩ := HF.out.1 i hlt
      obtain ⟨bb, ob, hbo, hcb⟩ := HF.out.2.1 i hlt
      obtain ⟨x, hx⟩ : ∃ x, x = c i := ⟨_, rfl⟩
      obtain ⟨y, hy⟩ : ∃ y, y = d i := ⟨_, rfl⟩
      replace hca : wr.cell? ⟨ba, oa + i, none⟩ = some (.int .i64 (x : Nat)) := by rw [HG.out.2, hx]; exact hca
      replace hcb : wr.cell? ⟨bb, ob + i, none⟩ = some (.int .i64 (y : Nat)) := by rw [HG.out.2, hy]; exact hcb
      subst hao
      subst hbo
      obtain ⟨q, hq⟩ : ∃ q, q = cmpZ (x : Nat) (y : Nat) := ⟨_, rfl⟩
      have HQ : Hid (Calls Try.prog 84 #[.int .i64 (x : Nat), .int .i64 (y : Nat)] wr fun e w' => e = .returned (.int .i64 q) ∧ w' = wr) := by rw [hq]; exact HCm.out _ _ _
      by_cases hxy : x = y
      · have zq : (q != 0) = false := by rw [hq, hxy]; unfold cmpZ; rw [if_neg (by omega), if_neg (by omega)]; rfl
        have HN : Hid ((∀ j, j < i + 1 → c j = d j) ∧ wr = w) := by
          refine ⟨fun j hj => ?_, HG.out.2⟩
          by_cases e : j = i
          · rw [e, ← hx, ← hy, hxy]
          · exact HG.out.1 j (by omega)
        clear hx hy hxy hq
        go_wp2_with (go_at_call 84; refine HQ.out.mono ?_; rintro e w' ⟨rfl, hw⟩; have hw := hw.symm; subst hw)
        go_roundw
        case rel => exact ⟨i + 1, by omega, by go_num, HN.out⟩
        case measure => simp [intOf]; omega
      · have h13 : ∀ u : Nat → Nat, (∀ j, u j ≤ 1) → ∀ t, t < i + 1 + (m - (i + 1)) → u t < 2 := fun u hu t _ => by have := hu t; omega
        have em : i + 1 + (m - (i + 1)) = m := by omega
        have HE : Hid (q = R ∧ wr = w) := by
          refine ⟨?_, HG.out.2⟩
          rw [hq, HF.out.2.2.2.2]
          unfold cmpZ
          rcases Nat.lt_or_ge x y with h | h
          · have h1 := dnum_lex (q := 2) HG.out.1 (show c i < d i by rw [← hx, ← hy]; exact h) (m - (i + 1)) (h13 c HF.out.2.2.1)
            rw [em] at h1
            rw [if_pos (by omega), if_pos (by omega)]
          · have h1 := dnum_lex (q := 2) (fun j hj => (HG.out.1 j hj).symm) (show d i < c i by rw [← hx, ← hy]; omega) (m - (i + 1)) (h13 d HF.out.2.2.2.1)
            rw [em] at h1
            rw [if_neg (by omega), if_pos (by omega), if_neg (by omega), if_pos (by omega)]
        have zq : (q != 0) = true := by
          rw [bne_iff_ne, hq]
          unfold cmpZ
          split
          · omega
          · rw [if_pos (by omega)]; omega
        clear hx hy hxy hq h13 em
        go_wp2_with (go_at_call 84; refine HQ.out.mono ?_; rintro e w' ⟨rfl, hw⟩; have hw := hw.symm; subst hw)
        go_ret
        exact ⟨by rw [← HE.out.1]; rfl, HE.out.2⟩
    · have hib : ¬ (i : Int) < (m : Int) := by omega
      have HE : Hid (R = 0 ∧ wr = w) := by
        refine ⟨?_, HG.out.2⟩
        rw [HF.out.2.2.2.2, dnum_congr (e := d) m (fun j hj => HG.out.1 j (by omega))]
        unfold cmpZ
        rw [if_neg (by omega), if_neg (by omega)]
      go_wp2
      go_ret
      exact ⟨by rw [HE.out.1]; rfl, HE.out.2⟩

/-- A word of m bits that lies in w, and its number. -/
abbrev WKy (m : Nat) (w : World) : Type := { p : Value × Nat // WdK m p.1 p.2 w }
def WKy.enc {m : Nat} {w : World} (x : WKy m w) : Value := x.1.1
def WKy.key {m : Nat} {w : World} (x : WKy m w) : Nat := x.1.2
def WKy.cf {m : Nat} {w : World} (x y : WKy m w) : Int := cmpZ (x.key : Nat) (y.key : Nat)
theorem WKy.lt {m : Nat} {w : World} (x y : WKy m w) : ltOf WKy.cf x y = decide (x.key < y.key) := by
  unfold ltOf WKy.cf cmpZ
  by_cases h1 : x.key < y.key
  · rw [if_pos (by omega), decide_eq_true h1]; rfl
  · rw [if_neg (by omega), decide_eq_false h1]
    by_cases h2 : y.key < x.key
    · rw [if_pos (by omega)]; rfl
    · rw [if_neg (by omega)]; rfl
theorem WKy.swo {m : Nat} {w : World} : SWO (ltOf (WKy.cf (m := m) (w := w))) where
  irrefl x := by rw [WKy.lt]; simp
  trans x y z h1 h2 := by rw [WKy.lt] at *; simp at *; omega
  ntrans x y z h1 h2 := by rw [WKy.lt] at *; simp at *; omega
theorem sortWorld_ofG {α : Type} [Inhabited α] (enc : α → Value) {w : World} {blk off n : Nat} {dk : Array α} {os : Array Obj} (hb : blk < w.heap.size) : OfG blk w (sortWorld enc w blk off n dk os) := by
  have hsize : (sortWorld enc w blk off n dk os).heap.size = w.heap.size + os.size := by
    unfold sortWorld grow putRow mapBlock Sort.ahead
    simp
  have key : ∀ g, g < w.heap.size → g ≠ blk → (sortWorld enc w blk off n dk os).heap[g]? = w.heap[g]? := fun g hg hn => by
    unfold sortWorld grow putRow mapBlock Sort.ahead
    show (w.heap.modify blk _ ++ os)[g]? = _
    rw [Array.getElem?_append_left (by simpa using hg), Array.getElem?_modify, if_neg (fun e => hn e.symm)]
  exact ⟨key, fun B u hbl hB => ⟨hbl.os, hbl.tape, hbl.output, by rw [hsize]; have := hbl.size; omega, fun k hk => (key k (by omega) (by omega)).trans (hbl.block k hk)⟩⟩
end Go.Proofs.Ytillljojdnofgaa
